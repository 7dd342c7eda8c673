/- Layer 8: what holds of every table: each file has as many links as names lead to it; used is what all take. -/
import Derived.Test.YtagdhghjcibfbaaGreatInC
namespace Go.Proofs.YtagdhghjcibfbaaGreat
open Go.RowKit
set_option linter.unusedVariables false
set_option linter.unusedSectionVars false

theorem sum_ge {α : Type} (g : α → Nat) {x : α} : ∀ {l : List α}, x ∈ l → g x ≤ (l.map g).sum
  | [], h => by cases h
  | y :: r, h => by
    rw [List.map_cons, List.sum_cons]
    rcases List.mem_cons.1 h with rfl | h
    · omega
    · have := sum_ge g h; omega
def cntN (x : Int) (l : List (List UInt8 × Int)) : Nat := (l.map fun q => if q.2 = x then 1 else 0).sum
def refsL (x : Int) (l : List (Int × Nd)) : Nat := (l.map fun p => cntN x p.2.names).sum
def costL (l : List (Int × Nd)) : Nat := (l.map fun p => 64 + p.2.data.length).sum
def one (v x : Int) : Nat := if v = x then 1 else 0
theorem cnt_put_new {s : List UInt8} {v x : Int} {l : List (List UInt8 × Int)} (h : aget s l = none) : cntN x (aput bytesBefore s v l) = cntN x l + one v x := by
  unfold aput cntN
  rw [adel_fresh h, sum_ains]
  show one v x + _ = _
  omega
theorem cnt_del {s : List UInt8} {v x : Int} {l : List (List UInt8 × Int)} (hr : Ris bytesBefore l) (h : aget s l = some v) : cntN x (adel s l) + one v x = cntN x l :=
  sum_del (fun q : List UInt8 × Int => if q.2 = x then 1 else 0) (ris_ne ord_S hr) h
theorem cnt_put_old {s : List UInt8} {v v' x : Int} {l : List (List UInt8 × Int)} (hr : Ris bytesBefore l) (h : aget s l = some v') : cntN x (aput bytesBefore s v l) + one v' x = cntN x l + one v x := by
  have h1 := cnt_del (x := x) hr h
  have h2 : cntN x (aput bytesBefore s v l) = one v x + cntN x (adel s l) := sum_ains _ _ _
  omega
theorem cnt_pos {s : List UInt8} {v : Int} {l : List (List UInt8 × Int)} (h : aget s l = some v) : 1 ≤ cntN v l := by
  have := sum_ge (fun q : List UInt8 × Int => if q.2 = v then 1 else 0) (aget_mem h)
  unfold cntN
  simpa using this
theorem refs_ge {T : Tb} {d : Int} {nd : Nd} (x : Int) (h : aget d T.nodes = some nd) : cntN x nd.names ≤ refsL x T.nodes :=
  sum_ge (fun p : Int × Nd => cntN x p.2.names) (aget_mem h)

/-- What holds of a table: d: how many links an inode has beyond the names that lead to it; x: the inode that may have neither links nor holds. -/
structure Wd (T : Tb) (d : Int → Int) (x : Int) : Prop where
  ris : Ris ltI T.nodes
  nris : ∀ id n, aget id T.nodes = some n → Ris bytesBefore n.names
  fil : ∀ id n, aget id T.nodes = some n → n.dir = false → n.names = []
  dirs : ∀ id n, aget id T.nodes = some n → n.dir = true → n.data = [] ∧ n.holds = 0 ∧ n.links = 1
  lead : ∀ i n s id, aget i T.nodes = some n → aget s n.names = some id → ∃ m, aget id T.nodes = some m
  cnt : ∀ id n, aget id T.nodes = some n → n.links = refsL id T.nodes + (if id = 1 then 1 else 0) + d id
  live : ∀ id n, aget id T.nodes = some n → id ≠ x → n.links ≠ 0 ∨ n.holds ≠ 0
  pos : ∀ id n, aget id T.nodes = some n → 0 ≤ n.holds ∧ n.holds ≤ 1048576
  root : ∃ n, aget 1 T.nodes = some n ∧ n.dir = true
  ids : ∀ id n, aget id T.nodes = some n → 1 ≤ id ∧ id ≤ T.last
  use : T.used = costL T.nodes
  nms : ∀ id n s v, aget id T.nodes = some n → aget s n.names = some v → isNm s = true
def no : Int → Int := fun _ => 0
def bump (d : Int → Int) (x k : Int) : Int → Int := fun i => if i = x then d i + k else d i
abbrev Wf (T : Tb) : Prop := Wd T no 0

section
variable {T : Tb} {d : Int → Int} {x : Int}
theorem Wd.ne (h : Wd T d x) : T.nodes.Pairwise (fun p q => p.1 ≠ q.1) := ris_ne ord_I h.ris
theorem refs_mod (h : Wd T d x) {i : Int} {n : Nd} (hn : aget i T.nodes = some n) (f : Nd → Nd) (y : Int) : refsL y (amod i f T.nodes) + cntN y n.names = refsL y T.nodes + cntN y (f n).names :=
  sum_mod f (fun p : Int × Nd => cntN y p.2.names) h.ne hn
theorem cost_mod (h : Wd T d x) {i : Int} {n : Nd} (hn : aget i T.nodes = some n) (f : Nd → Nd) : costL (amod i f T.nodes) + (64 + n.data.length) = costL T.nodes + (64 + (f n).data.length) :=
  sum_mod f (fun p : Int × Nd => 64 + p.2.data.length) h.ne hn
/-- A change of one inode: what is to be shown. -/
theorem Wd.upd (h : Wd T d x) {i : Int} {n : Nd} (hn : aget i T.nodes = some n) (f : Nd → Nd) (d' : Int → Int) (x' : Int) (hd : (f n).dir = n.dir) (hr : Ris bytesBefore (f n).names)
    (hf : n.dir = false → (f n).names = []) (hD : n.dir = true → (f n).data = [] ∧ (f n).holds = 0 ∧ (f n).links = 1)
    (hl : ∀ s id, aget s (f n).names = some id → ∃ m, aget id T.nodes = some m) (hc : ∀ y, d' y + (cntN y (f n).names : Int) = d y + cntN y n.names + (if y = i then (f n).links - n.links else 0))
    (hx : x' = x ∨ (x = 0 ∧ x' = i)) (hlv : x' = i ∨ x = i ∨ (f n).links ≠ 0 ∨ (f n).holds ≠ 0) (hlx : x = i → x' = i ∨ (f n).links ≠ 0 ∨ (f n).holds ≠ 0) (hp : 0 ≤ (f n).holds ∧ (f n).holds ≤ 1048576) (hda : (f n).data.length = n.data.length) (hm : ∀ s v, aget s (f n).names = some v → isNm s = true) :
    Wd (T.upd i f) d' x' := by
  have get : ∀ id y, aget id (T.upd i f).nodes = some y → (id = i ∧ y = f n) ∨ (id ≠ i ∧ aget id T.nodes = some y) := fun id y hy => by
    rw [upd_get] at hy
    split at hy
    · next e => rw [hn] at hy; cases hy; exact .inl ⟨e, rfl⟩
    · next e => exact .inr ⟨e, hy⟩
  have put : ∀ id y, aget id T.nodes = some y → ∃ z, aget id (T.upd i f).nodes = some z := fun id y hy => by
    rw [upd_get]
    split
    · rw [hn]; exact ⟨_, rfl⟩
    · exact ⟨_, hy⟩
  refine ⟨ris_mod h.ris, fun id y hy => ?_, fun id y hy hyd => ?_, fun id y hy hyd => ?_, fun id y s v hy hs => ?_, fun id y hy => ?_, fun id y hy hne => ?_, fun id y hy => ?_, ?_, fun id y hy => ?_, ?_, fun id y s v hy hs => ?_⟩
  · rcases get id y hy with ⟨rfl, rfl⟩ | ⟨_, hy⟩
    · exact hr
    · exact h.nris _ _ hy
  · rcases get id y hy with ⟨rfl, rfl⟩ | ⟨_, hy⟩
    · exact hf (hd ▸ hyd)
    · exact h.fil _ _ hy hyd
  · rcases get id y hy with ⟨rfl, rfl⟩ | ⟨_, hy⟩
    · exact hD (hd ▸ hyd)
    · exact h.dirs _ _ hy hyd
  · have : ∃ m, aget v T.nodes = some m := by
      rcases get id y hy with ⟨rfl, rfl⟩ | ⟨_, hy⟩
      · exact hl _ _ hs
      · exact h.lead _ _ _ _ hy hs
    obtain ⟨m, hm⟩ := this
    exact put v m hm
  · have hrf := refs_mod h hn f id
    have hci := hc id
    show _ = (refsL id (amod i f T.nodes) : Int) + _ + _
    rcases get id y hy with ⟨rfl, rfl⟩ | ⟨hne, hy⟩
    · have := h.cnt _ _ hn
      rw [if_pos rfl] at hci
      omega
    · have := h.cnt _ _ hy
      rw [if_neg hne] at hci
      omega
  · rcases get id y hy with ⟨rfl, rfl⟩ | ⟨hni, hy⟩
    · rcases hlv with e | e | e
      · exact absurd e.symm hne
      · rcases hlx e with e2 | e2
        · exact absurd e2.symm hne
        · exact e2
      · exact e
    · refine h.live _ _ hy fun e => ?_
      rcases hx with e1 | ⟨e1, e2⟩
      · exact hne (e.trans e1.symm)
      · have := (h.ids _ _ hy).1; omega
  · rcases get id y hy with ⟨rfl, rfl⟩ | ⟨_, hy⟩
    · exact hp
    · exact h.pos _ _ hy
  · obtain ⟨r, hr1, hr2⟩ := h.root
    rw [upd_get]
    split
    · next e => subst e; rw [hn] at hr1 ⊢; cases hr1; exact ⟨_, rfl, by rw [hd]; exact hr2⟩
    · exact ⟨r, hr1, hr2⟩
  · rcases get id y hy with ⟨rfl, rfl⟩ | ⟨_, hy⟩
    · exact h.ids _ _ hn
    · exact h.ids _ _ hy
  · have := cost_mod h hn f
    have hu := h.use
    show T.used = (costL (amod i f T.nodes) : Int)
    omega
  · rcases get id y hy with ⟨rfl, rfl⟩ | ⟨_, hy⟩
    · exact hm _ _ hs
    · exact h.nms _ _ _ _ hy hs
/-- A name more. -/
theorem Wd.put_new (h : Wd T d x) {i : Int} {n : Nd} (hn : aget i T.nodes = some n) (hd : n.dir = true) {s : List UInt8} (hs : aget s n.names = none) (hm : isNm s = true) {v : Int} (hv : ∃ m, aget v T.nodes = some m) :
    Wd (T.upd i (Nd.putName s v)) (bump d v (-1)) x := by
  obtain ⟨d1, d2, d3⟩ := h.dirs _ _ hn hd
  refine h.upd hn _ _ _ rfl (ris_put ord_S (h.nris _ _ hn)) (fun e => by rw [hd] at e; cases e) (fun _ => ⟨d1, d2, d3⟩) (fun s' id hs' => ?_) (fun y => ?_) (.inl rfl) (.inr (.inr (.inl (by show n.links ≠ 0; omega)))) (fun _ => .inr (.inl (by show n.links ≠ 0; omega))) (h.pos i n hn) rfl (fun s' v' hs' => ?_)
  · change aget s' (aput bytesBefore s v n.names) = some id at hs'
    rw [aget_put] at hs'
    split at hs'
    · cases hs'; exact hv
    · exact h.lead _ _ _ _ hn hs'
  · have := cnt_put_new (v := v) (x := y) hs
    show bump d v (-1) y + ((cntN y (aput bytesBefore s v n.names) : Nat) : Int) = d y + cntN y n.names + (if y = i then n.links - n.links else 0)
    rw [this]
    unfold bump one
    by_cases e : y = v
    · subst e; simp; omega
    · rw [if_neg e, if_neg (fun e2 => e e2.symm)]; simp
  · change aget s' (aput bytesBefore s v n.names) = some v' at hs'
    rw [aget_put] at hs'
    split at hs'
    · next e => rw [e]; exact hm
    · exact h.nms _ _ _ _ hn hs'
/-- A name that leads elsewhere. -/
theorem Wd.put_old (h : Wd T d x) {i : Int} {n : Nd} (hn : aget i T.nodes = some n) (hd : n.dir = true) {s : List UInt8} {o : Int} (hs : aget s n.names = some o) {v : Int} (hv : ∃ m, aget v T.nodes = some m) :
    Wd (T.upd i (Nd.putName s v)) (bump (bump d v (-1)) o 1) x := by
  obtain ⟨d1, d2, d3⟩ := h.dirs _ _ hn hd
  refine h.upd hn _ _ _ rfl (ris_put ord_S (h.nris _ _ hn)) (fun e => by rw [hd] at e; cases e) (fun _ => ⟨d1, d2, d3⟩) (fun s' id hs' => ?_) (fun y => ?_) (.inl rfl) (.inr (.inr (.inl (by show n.links ≠ 0; omega)))) (fun _ => .inr (.inl (by show n.links ≠ 0; omega))) (h.pos i n hn) rfl (fun s' v' hs' => ?_)
  · change aget s' (aput bytesBefore s v n.names) = some id at hs'
    rw [aget_put] at hs'
    split at hs'
    · cases hs'; exact hv
    · exact h.lead _ _ _ _ hn hs'
  · have := cnt_put_old (v := v) (x := y) (h.nris _ _ hn) hs
    show bump (bump d v (-1)) o 1 y + ((cntN y (aput bytesBefore s v n.names) : Nat) : Int) = d y + cntN y n.names + (if y = i then n.links - n.links else 0)
    unfold bump
    unfold one at this
    by_cases e : y = v <;> by_cases e2 : y = o
    · subst e; subst e2; simp at this ⊢; omega
    · subst e; rw [if_neg (fun e => e2 e.symm), if_pos rfl] at this; rw [if_neg e2, if_pos rfl]; simp; omega
    · subst e2; rw [if_pos rfl, if_neg (fun e2 => e e2.symm)] at this; rw [if_pos rfl, if_neg e]; simp; omega
    · rw [if_neg (fun e => e2 e.symm), if_neg (fun e2 => e e2.symm)] at this; rw [if_neg e2, if_neg e]; simp; omega
  · change aget s' (aput bytesBefore s v n.names) = some v' at hs'
    rw [aget_put] at hs'
    split at hs'
    · next e => rw [e]; exact h.nms _ _ _ _ hn hs
    · exact h.nms _ _ _ _ hn hs'
/-- A name less. -/
theorem Wd.del (h : Wd T d x) {i : Int} {n : Nd} (hn : aget i T.nodes = some n) (hd : n.dir = true) {s : List UInt8} {v : Int} (hs : aget s n.names = some v) :
    Wd (T.upd i (Nd.delName s)) (bump d v 1) x := by
  obtain ⟨d1, d2, d3⟩ := h.dirs _ _ hn hd
  refine h.upd hn _ _ _ rfl (ris_del (h.nris _ _ hn)) (fun e => by rw [hd] at e; cases e) (fun _ => ⟨d1, d2, d3⟩) (fun s' id hs' => ?_) (fun y => ?_) (.inl rfl) (.inr (.inr (.inl (by show n.links ≠ 0; omega)))) (fun _ => .inr (.inl (by show n.links ≠ 0; omega))) (h.pos i n hn) rfl (fun s' v' hs' => ?_)
  · change aget s' (adel s n.names) = some id at hs'
    rw [aget_del] at hs'
    split at hs'
    · cases hs'
    · exact h.lead _ _ _ _ hn hs'
  · have := cnt_del (x := y) (h.nris _ _ hn) hs
    show bump d v 1 y + ((cntN y (adel s n.names) : Nat) : Int) = d y + cntN y n.names + (if y = i then n.links - n.links else 0)
    unfold bump
    unfold one at this
    by_cases e : y = v
    · subst e; rw [if_pos rfl] at this; rw [if_pos rfl]; simp; omega
    · rw [if_neg (fun e2 => e e2.symm)] at this; rw [if_neg e]; simp; omega
  · change aget s' (adel s n.names) = some v' at hs'
    rw [aget_del] at hs'
    split at hs'
    · cases hs'
    · exact h.nms _ _ _ _ hn hs'
/-- Links of a file. -/
theorem Wd.links (h : Wd T d 0) {i : Int} {n : Nd} (hn : aget i T.nodes = some n) (hd : n.dir = false) (k : Int) : Wd (T.upd i (Nd.addLinks k)) (bump d i k) i := by
  refine h.upd hn _ _ _ rfl (h.nris i n hn) (fun e => h.fil i n hn e) (fun e => by rw [hd] at e; cases e) (fun s id hs => h.lead i n _ _ hn hs) (fun y => ?_) (.inr ⟨rfl, rfl⟩) (.inl rfl) (fun _ => .inl rfl) (h.pos i n hn) rfl (fun s v hs => h.nms i n _ _ hn hs)
  show bump d i k y + ((cntN y n.names : Nat) : Int) = d y + cntN y n.names + (if y = i then n.links + k - n.links else 0)
  unfold bump
  by_cases e : y = i
  · rw [if_pos e, if_pos e]; omega
  · rw [if_neg e, if_neg e]; omega
theorem Wd.holds (h : Wd T d 0) {i : Int} {n : Nd} (hn : aget i T.nodes = some n) (hd : n.dir = false) (k : Int) (hk : 0 ≤ n.holds + k ∧ n.holds + k ≤ 1048576) : Wd (T.upd i (Nd.addHolds k)) d i := by
  refine h.upd hn _ _ _ rfl (h.nris i n hn) (fun e => h.fil i n hn e) (fun e => by rw [hd] at e; cases e) (fun s id hs => h.lead i n _ _ hn hs) (fun y => ?_) (.inr ⟨rfl, rfl⟩) (.inl rfl) (fun _ => .inl rfl) hk rfl (fun s v hs => h.nms i n _ _ hn hs)
  show d y + ((cntN y n.names : Nat) : Int) = d y + cntN y n.names + (if y = i then n.links - n.links else 0)
  split <;> omega
/-- What is alive after all. -/
theorem Wd.alive (h : Wd T d x) (hx : ∀ n, aget x T.nodes = some n → n.links ≠ 0 ∨ n.holds ≠ 0) : Wd T d 0 :=
  ⟨h.ris, h.nris, h.fil, h.dirs, h.lead, h.cnt, fun id n hn _ => if e : id = x then hx n (e ▸ hn) else h.live _ _ hn e, h.pos, h.root, h.ids, h.use, h.nms⟩
theorem Wd.eq (h : Wd T d x) {d' : Int → Int} (hd : ∀ y, d' y = d y) : Wd T d' x := by
  have : d' = d := funext hd
  rw [this]; exact h
/-- An inode to which no name leads goes. -/
theorem Wd.rmv (h : Wd T d x) {n : Nd} (hn : aget x T.nodes = some n) (h1 : x ≠ 1) (hr : refsL x T.nodes = 0) (hm : n.names = []) : Wd (T.rmv x) d 0 := by
  have sub : ∀ id y, aget id (T.rmv x).nodes = some y → id ≠ x ∧ aget id T.nodes = some y := fun id y hy => by
    change aget id (adel x T.nodes) = some y at hy
    rw [aget_del] at hy
    split at hy
    · cases hy
    · next e => exact ⟨e, hy⟩
  have back : ∀ id y, id ≠ x → aget id T.nodes = some y → aget id (T.rmv x).nodes = some y := fun id y hne hy => by
    show aget id (adel x T.nodes) = some y
    rw [aget_del, if_neg hne]; exact hy
  have rf : ∀ y, refsL y (adel x T.nodes) = refsL y T.nodes := fun y => by
    have := sum_del (fun p : Int × Nd => cntN y p.2.names) h.ne hn
    have h0 : cntN y n.names = 0 := by rw [hm]; rfl
    unfold refsL
    simp only [h0] at this
    omega
  refine ⟨ris_del h.ris, fun id y hy => h.nris _ _ (sub _ _ hy).2, fun id y hy => h.fil _ _ (sub _ _ hy).2, fun id y hy => h.dirs _ _ (sub _ _ hy).2, fun id y s v hy hs => ?_, fun id y hy => ?_, fun id y hy _ => h.live _ _ (sub _ _ hy).2 (sub _ _ hy).1,
    fun id y hy => h.pos _ _ (sub _ _ hy).2, ?_, fun id y hy => h.ids _ _ (sub _ _ hy).2, ?_, fun id y s v hy => h.nms _ _ _ _ (sub _ _ hy).2⟩
  · obtain ⟨m, hm'⟩ := h.lead _ _ _ _ (sub _ _ hy).2 hs
    refine ⟨m, back _ _ (fun e => ?_) hm'⟩
    subst e
    have h1 := cnt_pos hs
    have h2 := refs_ge v (sub _ _ hy).2
    omega
  · show _ = (refsL id (adel x T.nodes) : Int) + _ + _
    rw [rf]; exact h.cnt _ _ (sub _ _ hy).2
  · obtain ⟨r, hr1, hr2⟩ := h.root
    exact ⟨r, back _ _ (fun e => h1 e.symm) hr1, hr2⟩
  · have := sum_del (fun p : Int × Nd => 64 + p.2.data.length) h.ne hn
    have hu := h.use
    have hnd : T.nd x = n := by unfold Tb.nd; rw [hn]; rfl
    show T.used - (64 + ((T.nd x).data.length : Int)) = (costL (adel x T.nodes) : Int)
    rw [hnd]
    unfold costL at hu ⊢
    simp only at this
    omega
/-- A file that may have neither links nor holds: let go. -/
theorem Wd.rel (h : Wd T no x) {n : Nd} (hn : aget x T.nodes = some n) (hd : n.dir = false) : Wf (T.rel x) := by
  have hnd : T.nd x = n := by unfold Tb.nd; rw [hn]; rfl
  unfold Tb.rel
  rw [hnd]
  split
  · next e =>
    have hc := h.cnt _ _ hn
    have h1 : x ≠ 1 := fun e => by
      subst e
      obtain ⟨r, hr1, hr2⟩ := h.root
      rw [hn] at hr1; cases hr1; rw [hd] at hr2; cases hr2
    rw [if_neg h1] at hc
    unfold no at hc
    exact h.rmv hn h1 (by omega) (h.fil _ _ hn hd)
  · next e => exact h.alive (fun m hm => by rw [hn] at hm; cases hm; exact if hl : n.links = 0 then .inr (fun e2 => e ⟨hl, e2⟩) else .inl hl)
end
end Go.Proofs.YtagdhghjcibfbaaGreat

/- Layer 8: what holds of a table holds behind each act. -/
import Derived.Test.YtagdhghjcibfbaaGreatInW
import Derived.Test.YtagdhghjcibfbaaGreatInO
namespace Go.Proofs.YtagdhghjcibfbaaGreat
open Go.RowKit
set_option linter.unusedVariables false
set_option linter.unusedSectionVars false

section
variable {T : Tb} {d : Int → Int} {x : Int}
/-- Other bytes of a file. -/
theorem Wd.data (h : Wd T d x) {i : Int} {n : Nd} (hn : aget i T.nodes = some n) (hf : n.dir = false) (s : List UInt8) : Wd (T.setData i s) d x := by
  have get : ∀ id y, aget id (T.setData i s).nodes = some y → (id = i ∧ y = Nd.setData s n) ∨ (id ≠ i ∧ aget id T.nodes = some y) := fun id y hy => by
    rw [setData_nodes, aget_mod] at hy
    split at hy
    · next e => rw [hn] at hy; cases hy; exact .inl ⟨e, rfl⟩
    · next e => exact .inr ⟨e, hy⟩
  have put : ∀ id y, aget id T.nodes = some y → ∃ z, aget id (T.setData i s).nodes = some z := fun id y hy => by
    rw [setData_nodes, aget_mod]
    split
    · rw [hn]; exact ⟨_, rfl⟩
    · exact ⟨_, hy⟩
  have rf : ∀ y, refsL y (T.setData i s).nodes = refsL y T.nodes := fun y => by
    have := refs_mod h hn (Nd.setData s) y
    rw [setData_nodes]
    have e : cntN y (Nd.setData s n).names = cntN y n.names := rfl
    omega
  refine ⟨ris_mod h.ris, fun id y hy => ?_, fun id y hy hyd => ?_, fun id y hy hyd => ?_, fun id y s' v hy hs => ?_, fun id y hy => ?_, fun id y hy hne => ?_, fun id y hy => ?_, ?_, fun id y hy => ?_, ?_, fun id y s' v hy hs => ?_⟩
  · rcases get id y hy with ⟨rfl, rfl⟩ | ⟨_, hy⟩
    · exact h.nris id n hn
    · exact h.nris _ _ hy
  · rcases get id y hy with ⟨rfl, rfl⟩ | ⟨_, hy⟩
    · exact h.fil id n hn hf
    · exact h.fil _ _ hy hyd
  · rcases get id y hy with ⟨rfl, rfl⟩ | ⟨_, hy⟩
    · exact absurd (show n.dir = true from hyd) (by rw [hf]; decide)
    · exact h.dirs _ _ hy hyd
  · have : ∃ m, aget v T.nodes = some m := by
      rcases get id y hy with ⟨rfl, rfl⟩ | ⟨_, hy⟩
      · exact h.lead id n _ _ hn hs
      · exact h.lead _ _ _ _ hy hs
    obtain ⟨m, hm⟩ := this
    exact put v m hm
  · rw [rf]
    rcases get id y hy with ⟨rfl, rfl⟩ | ⟨_, hy⟩
    · exact h.cnt id n hn
    · exact h.cnt _ _ hy
  · rcases get id y hy with ⟨rfl, rfl⟩ | ⟨_, hy⟩
    · exact h.live id n hn hne
    · exact h.live _ _ hy hne
  · rcases get id y hy with ⟨rfl, rfl⟩ | ⟨_, hy⟩
    · exact h.pos id n hn
    · exact h.pos _ _ hy
  · obtain ⟨r, hr1, hr2⟩ := h.root
    rw [setData_nodes, aget_mod]
    split
    · next e => subst e; rw [hn] at hr1 ⊢; cases hr1; exact ⟨Nd.setData s n, rfl, hr2⟩
    · exact ⟨r, hr1, hr2⟩
  · rcases get id y hy with ⟨rfl, rfl⟩ | ⟨_, hy⟩
    · exact h.ids id n hn
    · exact h.ids _ _ hy
  · have := cost_mod h hn (Nd.setData s)
    have hu := h.use
    show T.used + (s.length - (T.nd i).data.length) = (costL (amod i (Nd.setData s) T.nodes) : Int)
    rw [nd_of hn]
    have e : (Nd.setData s n).data.length = s.length := rfl
    omega
  · rcases get id y hy with ⟨rfl, rfl⟩ | ⟨_, hy⟩
    · exact h.nms id n _ _ hn hs
    · exact h.nms _ _ _ _ hy hs
theorem ltI_last (h : Wd T d x) (v : Nd) : aput ltI (T.last + 1) v T.nodes = T.nodes ++ [(T.last + 1, v)] :=
  aput_last (fun p hp => by
    have := (h.ids p.1 p.2 (mem_aget h.ne hp)).2
    exact ⟨by unfold ltI; rw [decide_eq_false]; omega, by omega⟩)
theorem Wd.fresh (h : Wd T d x) : aget (T.last + 1) T.nodes = none := by
  cases hg : aget (T.last + 1) T.nodes with
  | none => rfl
  | some n => have := (h.ids _ _ hg).2; omega
/-- An inode more, to which no name leads. -/
theorem Wd.add (h : Wd T no x) (isDir : Bool) (hl : 0 ≤ T.last) : Wd (T.add isDir) (bump no (T.last + 1) 1) x := by
  have hfr := h.fresh
  have get : ∀ id y, aget id (T.add isDir).nodes = some y → (id = T.last + 1 ∧ y = ⟨isDir, 1, 0, [], []⟩) ∨ (id ≠ T.last + 1 ∧ aget id T.nodes = some y) := fun id y hy => by
    change aget id (aput ltI (T.last + 1) _ T.nodes) = some y at hy
    rw [aget_put] at hy
    split at hy
    · next e => cases hy; exact .inl ⟨e, rfl⟩
    · next e => exact .inr ⟨e, hy⟩
  have put : ∀ id y, aget id T.nodes = some y → aget id (T.add isDir).nodes = some y := fun id y hy => by
    show aget id (aput ltI (T.last + 1) _ T.nodes) = some y
    rw [aget_put, if_neg (fun e => by rw [e, hfr] at hy; cases hy)]; exact hy
  have rf : ∀ y, refsL y (T.add isDir).nodes = refsL y T.nodes := fun y => by
    show refsL y (aput ltI (T.last + 1) _ T.nodes) = _
    rw [ltI_last h]
    unfold refsL
    rw [List.map_append, List.sum_append]
    rfl
  have r0 : refsL (T.last + 1) T.nodes = 0 := by
    have key : ∀ l : List (Int × Nd), (∀ p ∈ l, ∀ q ∈ p.2.names, q.2 ≠ T.last + 1) → refsL (T.last + 1) l = 0 := by
      intro l
      induction l with
      | nil => intro _; rfl
      | cons p r ih =>
        intro hp
        unfold refsL
        rw [List.map_cons, List.sum_cons]
        have h1 : cntN (T.last + 1) p.2.names = 0 := by
          have hq := hp p (by simp)
          revert hq
          generalize p.2.names = ns
          intro hq
          induction ns with
          | nil => rfl
          | cons q s ih2 =>
            unfold cntN
            rw [List.map_cons, List.sum_cons, if_neg (hq q (by simp))]
            have := ih2 (fun q' hq' => hq q' (by simp [hq']))
            unfold cntN at this
            omega
        have h2 := ih (fun p' hp' => hp p' (by simp [hp']))
        unfold refsL at h2
        omega
    refine key _ fun p hp q hq e => ?_
    have hn := mem_aget (k := p.1) (v := p.2) h.ne hp
    have hg := mem_aget (k := q.1) (v := q.2) (ris_ne ord_S (h.nris _ _ hn)) hq
    obtain ⟨m, hm⟩ := h.lead _ _ _ _ hn hg
    rw [e, hfr] at hm; cases hm
  refine ⟨ris_put ord_I h.ris, fun id y hy => ?_, fun id y hy hyd => ?_, fun id y hy hyd => ?_, fun id y s' v hy hs => ?_, fun id y hy => ?_, fun id y hy hne => ?_, fun id y hy => ?_, ?_, fun id y hy => ?_, ?_, fun id y s' v hy hs => ?_⟩
  · rcases get id y hy with ⟨_, rfl⟩ | ⟨_, hy⟩
    · exact List.Pairwise.nil
    · exact h.nris _ _ hy
  · rcases get id y hy with ⟨_, rfl⟩ | ⟨_, hy⟩
    · rfl
    · exact h.fil _ _ hy hyd
  · rcases get id y hy with ⟨_, rfl⟩ | ⟨_, hy⟩
    · exact ⟨rfl, rfl, rfl⟩
    · exact h.dirs _ _ hy hyd
  · rcases get id y hy with ⟨_, rfl⟩ | ⟨_, hy⟩
    · cases hs
    · obtain ⟨m, hm⟩ := h.lead _ _ _ _ hy hs
      exact ⟨m, put _ _ hm⟩
  · rw [rf]
    rcases get id y hy with ⟨rfl, rfl⟩ | ⟨hne, hy⟩
    · have hone : ¬ (T.last + 1 = 1) := by obtain ⟨r, hr1, _⟩ := h.root; have := (h.ids _ _ hr1).2; omega
      rw [r0, if_neg hone]
      unfold bump no
      rw [if_pos rfl]; rfl
    · have := h.cnt _ _ hy
      unfold bump
      rw [if_neg hne]; exact this
  · rcases get id y hy with ⟨_, rfl⟩ | ⟨_, hy⟩
    · exact .inl (by show (1 : Int) ≠ 0; decide)
    · exact h.live _ _ hy hne
  · rcases get id y hy with ⟨_, rfl⟩ | ⟨_, hy⟩
    · exact ⟨by show (0 : Int) ≤ 0; decide, by show (0 : Int) ≤ 1048576; decide⟩
    · exact h.pos _ _ hy
  · obtain ⟨r, hr1, hr2⟩ := h.root
    exact ⟨r, put _ _ hr1, hr2⟩
  · rcases get id y hy with ⟨rfl, rfl⟩ | ⟨_, hy⟩
    · exact ⟨by omega, Int.le_refl _⟩
    · have := h.ids _ _ hy
      exact ⟨this.1, by show id ≤ T.last + 1; omega⟩
  · have hu := h.use
    show T.used + 64 = (costL (aput ltI (T.last + 1) _ T.nodes) : Int)
    rw [ltI_last h]
    unfold costL at hu ⊢
    rw [List.map_append, List.sum_append]
    simp
    omega
  · rcases get id y hy with ⟨_, rfl⟩ | ⟨_, hy⟩
    · cases hs
    · exact h.nms _ _ _ _ hy hs
end

/-! ### Each act -/
section
variable {T : Tb} (h : Wf T)
include h
theorem wf_make {dir : Int} {name : List UInt8} (isDir : Bool) (hl : 0 ≤ T.last) (hE : T.newE dir name = 0) : Wf (T.make dir name isDir) := by
  obtain ⟨n, hn, hd, hnm, hL⟩ := new_parts hE
  have ha := h.add isDir hl
  have hne : dir ≠ T.last + 1 := fun e => by rw [e, h.fresh] at hn; cases hn
  have hn' : aget dir (T.add isDir).nodes = some n := by
    show aget dir (aput ltI (T.last + 1) _ T.nodes) = some n
    rw [aget_put, if_neg hne]; exact hn
  have hv : ∃ m, aget (T.last + 1) (T.add isDir).nodes = some m := ⟨_, by show aget (T.last + 1) (aput ltI (T.last + 1) _ T.nodes) = some _; rw [aget_put, if_pos rfl]⟩
  exact (ha.put_new hn' hd hL hnm hv).eq (fun y => by unfold bump no; split <;> rfl)
theorem wf_link {id dir : Int} {name : List UInt8} (hE : T.linkE id dir name = 0) : Wf (T.link id dir name) := by
  unfold Tb.linkE at hE
  split at hE
  · next hk =>
    obtain ⟨m, hm, hmd⟩ := kind_some hk
    obtain ⟨n, hn, hd, hnm, hL⟩ := new_parts hE
    have hne : id ≠ dir := fun e => by rw [e, hn] at hm; cases hm; rw [hd] at hmd; cases hmd
    have h1 := h.put_new hn hd hL hnm ⟨m, hm⟩
    have hm' : aget id (T.upd dir (Nd.putName name id)).nodes = some m := by rw [upd_get, if_neg hne]; exact hm
    have h2 := (h1.links hm' hmd 1).eq (d' := no) (fun y => by unfold bump no; split <;> rfl)
    refine h2.alive fun y hy => ?_
    change aget id (amod id (Nd.addLinks 1) (T.upd dir (Nd.putName name id)).nodes) = some y at hy
    rw [aget_mod, if_pos rfl, hm'] at hy
    cases hy
    left
    have := h.cnt _ _ hm
    show m.links + 1 ≠ 0
    unfold no at this
    split at this <;> omega
  · next hk => exact absurd hE hk
theorem wf_lose_of {T2 : Tb} {id : Int} {m : Nd} (h2 : Wd T2 (bump no id 1) 0) (hm : aget id T2.nodes = some m) (hmd : m.dir = false) : Wf (T2.lose id) := by
  have h3 := (h2.links hm hmd (-1)).eq (d' := no) (fun y => by unfold bump no; split <;> rfl)
  have hm' : aget id (T2.upd id (Nd.addLinks (-1))).nodes = some (Nd.addLinks (-1) m) := by rw [upd_get, if_pos rfl, hm]; rfl
  exact h3.rel hm' hmd
theorem wf_ok_lead {N : Nat} (hq : T.used ≤ T.quota ∧ T.quota ≤ 1099511627776) (hla : 0 ≤ T.last ∧ T.last < 1099511627776) (hlen : T.nodes.length ≤ 4096) (hN : N < 1099511627776)
    (hb : ∀ id n, aget id T.nodes = some n → n.names.length ≤ N ∧ n.links ≤ N) : Ok T :=
  ⟨h.lead, fun id n hn => by have := h.ids _ _ hn; omega, hla, hlen, fun id n hn => by have := (hb _ _ hn).1; omega, by have := h.use; omega, fun id n hn => by
      have h1 := h.cnt _ _ hn
      have h2 := (hb _ _ hn).2
      unfold no at h1
      split at h1 <;> omega, h.pos, fun id n hn => by
      have h1 := sum_ge (fun p : Int × Nd => 64 + p.2.data.length) (aget_mem hn)
      have h2 := h.use
      unfold costL at h2
      simp only at h1
      omega⟩
theorem wf_unlink {dir : Int} {name : List UInt8} (ok : Ok T) (hE : T.ofE dir name false = 0) : Wf (T.unlink dir name) := by
  obtain ⟨n, m, hn, hd, hnm, hL, hm, hmd⟩ := of_parts ok hE
  have hne : T.tgt dir name ≠ dir := fun e => by rw [e, hn] at hm; cases hm; rw [hd] at hmd; cases hmd
  have h1 := h.del hn hd hL
  have hm' : aget (T.tgt dir name) (T.upd dir (Nd.delName name)).nodes = some m := by rw [upd_get, if_neg hne]; exact hm
  exact wf_lose_of h h1 hm' hmd
theorem wf_remove {dir : Int} {name : List UInt8} (ok : Ok T) (hE : T.removeE dir name = 0) : Wf (T.remove dir name) := by
  unfold Tb.removeE at hE
  split at hE
  · next hk =>
    obtain ⟨n, m, hn, hd, hnm, hL, hm, hmd⟩ := of_parts ok hk
    rw [nd_of hm] at hE
    have h0 : m.names = [] := by
      by_cases e : 0 < m.names.length
      · rw [if_pos e] at hE; cases hE
      · exact List.length_eq_zero_iff.1 (by omega)
    have hne : T.tgt dir name ≠ dir := fun e => by
      rw [e, hn] at hm; cases hm
      have := aget_mem hL
      rw [h0] at this; cases this
    have h1 := h.del hn hd hL
    have hm' : aget (T.tgt dir name) (T.upd dir (Nd.delName name)).nodes = some m := by rw [upd_get, if_neg hne]; exact hm
    have hc := h1.cnt _ _ hm'
    have hd3 := (h.dirs _ _ hm hmd).2.2
    have hroot : T.tgt dir name ≠ 1 := fun e => by
      have hc0 := h.cnt _ _ hm
      rw [if_pos e] at hc0
      unfold no at hc0
      have h1 := cnt_pos hL
      have h2 := refs_ge (T.tgt dir name) hn
      omega
    rw [if_neg hroot] at hc
    unfold bump no at hc
    rw [if_pos rfl] at hc
    have h2 : Wd (T.upd dir (Nd.delName name)) (bump no (T.tgt dir name) 1) (T.tgt dir name) :=
      ⟨h1.ris, h1.nris, h1.fil, h1.dirs, h1.lead, h1.cnt, fun id y hy hne => h1.live _ _ hy (by have := (h1.ids _ _ hy).1; omega), h1.pos, h1.root, h1.ids, h1.use, h1.nms⟩
    have h3 := h2.rmv hm' hroot (by omega) h0
    -- beyond the inode that went, all is in order
    have e : ∀ y z, aget y ((T.upd dir (Nd.delName name)).rmv (T.tgt dir name)).nodes = some z → y ≠ T.tgt dir name := fun y z hz e => by
      change aget y (adel (T.tgt dir name) (T.upd dir (Nd.delName name)).nodes) = some z at hz
      rw [aget_del, if_pos e] at hz; cases hz
    exact ⟨h3.ris, h3.nris, h3.fil, h3.dirs, h3.lead, fun id y hy => by
        have := h3.cnt _ _ hy
        unfold bump at this
        rw [if_neg (e _ _ hy)] at this
        exact this, h3.live, h3.pos, h3.root, h3.ids, h3.use, h3.nms⟩
  · next hk => exact absurd hE hk
theorem wf_rename {dir : Int} {name : List UInt8} {dst : Int} {nm : List UInt8} (ok : Ok T) (hE : T.renE dir name dst nm = 0) : Wf (T.rename dir name dst nm) := by
  unfold Tb.renE at hE
  split at hE
  · next hk =>
    split at hE
    · next hp0 =>
      obtain ⟨n, m, hn, hd, hnm, hL, hm, hmd⟩ := of_parts ok hk
      obtain ⟨p, hp, hpd, hpn, _⟩ := place_parts hp0
      unfold Tb.rename
      have hled : T.led dst nm = aget nm p.names := by unfold Tb.led; rw [nd_of hp]
      rw [hled] at hE ⊢
      cases hLo : aget nm p.names with
      | none =>
        simp only
        have h1 := h.put_new hp hpd hLo hpn ⟨m, hm⟩
        unfold Tb.moved
        have hns : dir = dst → name ≠ nm := fun e e2 => by
          subst e; subst e2
          rw [hn] at hp; cases hp
          rw [hL] at hLo; cases hLo
        obtain ⟨n1, hn1, hd1, hL1⟩ : ∃ n1, aget dir (T.upd dst (Nd.putName nm (T.tgt dir name))).nodes = some n1 ∧ n1.dir = true ∧ aget name n1.names = some (T.tgt dir name) := by
          rw [upd_get]
          split
          · next e =>
            refine ⟨Nd.putName nm (T.tgt dir name) p, by rw [hp]; rfl, hpd, ?_⟩
            show aget name (aput bytesBefore nm _ p.names) = _
            subst e
            rw [hn] at hp; cases hp
            rw [aget_put, if_neg (hns rfl)]; exact hL
          · exact ⟨n, hn, hd, hL⟩
        exact (h1.del hn1 hd1 hL1).eq (fun y => by unfold bump no; split <;> rfl)
      | some old =>
        simp only
        rw [hLo] at hE
        simp only at hE
        obtain ⟨mo, hmo⟩ := h.lead _ _ _ _ hp hLo
        rw [nd_of hmo] at hE
        have hof : mo.dir = false := by by_cases e : mo.dir = true; rw [if_pos e] at hE; cases hE; simpa using e
        by_cases hs : old = T.tgt dir name
        · rw [if_pos hs]; exact h
        · rw [if_neg hs]
          have h1 := h.put_old hp hpd hLo (v := T.tgt dir name) ⟨m, hm⟩
          have hns : dir = dst → name ≠ nm := fun e e2 => by
            subst e; subst e2
            rw [hn] at hp; cases hp
            rw [hL] at hLo
            exact hs (Option.some.inj hLo).symm
          obtain ⟨n1, hn1, hd1, hL1⟩ : ∃ n1, aget dir (T.upd dst (Nd.putName nm (T.tgt dir name))).nodes = some n1 ∧ n1.dir = true ∧ aget name n1.names = some (T.tgt dir name) := by
            rw [upd_get]
            split
            · next e =>
              refine ⟨Nd.putName nm (T.tgt dir name) p, by rw [hp]; rfl, hpd, ?_⟩
              show aget name (aput bytesBefore nm _ p.names) = _
              subst e
              rw [hn] at hp; cases hp
              rw [aget_put, if_neg (hns rfl)]; exact hL
            · exact ⟨n, hn, hd, hL⟩
          have h2 := (h1.del hn1 hd1 hL1).eq (d' := bump no old 1) (fun y => by
            unfold bump no
            by_cases e1 : y = old <;> by_cases e2 : y = T.tgt dir name
            · exact absurd (e1.symm.trans e2) hs
            · simp [e1, hs]
            · rw [if_neg e1, if_pos e2, if_neg e1, if_pos e2]; rfl
            · rw [if_neg e1, if_neg e2, if_neg e1, if_neg e2])
          have hne1 : old ≠ dst := fun e => by rw [e, hp] at hmo; cases hmo; rw [hpd] at hof; cases hof
          have hne2 : old ≠ dir := fun e => by rw [e, hn] at hmo; cases hmo; rw [hd] at hof; cases hof
          exact wf_lose_of h h2 (by unfold Tb.moved; rw [upd_get, if_neg hne2, upd_get, if_neg hne1]; exact hmo) hof
    · next hp0 => exact absurd hE hp0
  · next hk => exact absurd hE hk
theorem wf_data {id a : Int} (hE : T.fileE id a = 0) (s : List UInt8) : Wf (T.setData id s) := by
  obtain ⟨n, hn, hd, _, _⟩ := file_parts hE
  exact h.data hn hd s
theorem wf_hold {id : Int} (hE : T.holdE id = 0) : Wf (T.upd id (Nd.addHolds 1)) := by
  unfold Tb.holdE at hE
  split at hE
  · next hk =>
    obtain ⟨n, hn, hd⟩ := kind_some hk
    rw [nd_of hn] at hE
    have hne : n.holds ≠ 1048576 := fun e => by rw [if_pos e] at hE; cases hE
    have hp := h.pos _ _ hn
    refine (h.holds hn hd 1 (by omega)).alive fun y hy => ?_
    rw [upd_get, if_pos rfl, hn] at hy
    cases hy
    right
    show n.holds + 1 ≠ 0
    omega
  · next hk => exact absurd hE hk
theorem wf_drop {id : Int} (hE : T.dropE id = 0) : Wf (T.drop id) := by
  unfold Tb.dropE at hE
  cases hn : aget id T.nodes with
  | none => rw [hn] at hE; cases hE
  | some n =>
    rw [hn] at hE
    simp only at hE
    have h0 : n.holds ≠ 0 := fun e => by rw [if_pos e] at hE; cases hE
    have hd : n.dir = false := by
      cases e : n.dir with
      | false => rfl
      | true => exact absurd (h.dirs _ _ hn e).2.1 h0
    have hp := h.pos _ _ hn
    have h1 := h.holds hn hd (-1) (by omega)
    have hn' : aget id (T.upd id (Nd.addHolds (-1))).nodes = some (Nd.addHolds (-1) n) := by rw [upd_get, if_pos rfl, hn]; rfl
    exact h1.rel hn' hd
end
end Go.Proofs.YtagdhghjcibfbaaGreat

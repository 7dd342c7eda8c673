/- Layer 8: the acts in one: what they answer, what they leave; bounds. -/
import Derived.Test.YtagdhghjcibfbaaGreatInT
import Derived.Test.YtagdhghjcibfbaaGreatInS
namespace Go.Proofs.YtagdhghjcibfbaaGreat
open Go.RowKit
set_option linter.unusedVariables false
set_option linter.unusedSectionVars false

/-- An act. -/
structure AcT where
  kind : Int
  id : Int
  dir : Int
  at_ : Int
  n : Int
  name : List UInt8
  nm : List UInt8
  flag : Bool
def joinN : List (List UInt8) → List UInt8
  | [] => []
  | x :: r => x ++ [47] ++ joinN r
/-- What an act leaves, and answers. -/
def Tb.step (T : Tb) (a : AcT) : Tb × Int × List UInt8 × Int :=
  if a.kind = 1 then (if T.mkE a.dir a.name = 0 then T.make a.dir a.name a.flag else T, if T.mkE a.dir a.name = 0 then T.last + 1 else 0, [], T.mkE a.dir a.name)
  else if a.kind = 2 then (T, if T.entE a.dir a.name = 0 then T.tgt a.dir a.name else 0, [], T.entE a.dir a.name)
  else if a.kind = 3 then (if T.linkE a.id a.dir a.name = 0 then T.link a.id a.dir a.name else T, 0, [], T.linkE a.id a.dir a.name)
  else if a.kind = 4 then (if T.ofE a.dir a.name false = 0 then T.unlink a.dir a.name else T, 0, [], T.ofE a.dir a.name false)
  else if a.kind = 5 then (if T.removeE a.dir a.name = 0 then T.remove a.dir a.name else T, 0, [], T.removeE a.dir a.name)
  else if a.kind = 6 then (if T.renE a.dir a.name a.n a.nm = 0 then T.rename a.dir a.name a.n a.nm else T, 0, [], T.renE a.dir a.name a.n a.nm)
  else if a.kind = 7 then (T, 0, if T.fileE a.id (min a.at_ a.n) = 0 then readL (T.nd a.id).data a.at_ a.n else [], T.fileE a.id (min a.at_ a.n))
  else if a.kind = 8 then (if T.writeE a.id a.at_ a.nm = 0 then T.write a.id a.at_ a.nm else T, 0, [], T.writeE a.id a.at_ a.nm)
  else if a.kind = 9 then (if T.truncE a.id a.n = 0 then T.trunc a.id a.n else T, 0, [], T.truncE a.id a.n)
  else if a.kind = 10 then (if T.holdE a.id = 0 then T.upd a.id (Nd.addHolds 1) else T, 0, [], T.holdE a.id)
  else if a.kind = 11 then (if T.dropE a.id = 0 then T.drop a.id else T, 0, [], T.dropE a.id)
  else (T, if T.kindE a.dir true = 0 then (T.nd a.dir).names.length else 0, if T.kindE a.dir true = 0 then joinN ((T.nd a.dir).names.map (·.1)) else [], T.kindE a.dir true)

/-! ### Which blocks -/
section
variable {t mb : Nat} {A : Int → Nat × Nat} {T : Tb}
theorem own_upd {id : Int} {f : Nd → Nd} (hf : ∀ n, (f n).dir = n.dir) (k : Nat) (h : Own t mb A (T.upd id f).nodes k) : Own t mb A T.nodes k := own_mod hf h
theorem own_del {id : Int} {l : List (Int × Nd)} (k : Nat) (h : Own t mb A (adel id l) k) : Own t mb A l k := by
  rcases h with h | h | ⟨i, n, hn, h⟩
  · exact .inl h
  · exact .inr (.inl h)
  · rw [aget_del] at hn
    split at hn
    · cases hn
    · exact .inr (.inr ⟨i, n, hn, h⟩)
theorem own_rmv {id : Int} (k : Nat) (h : Own t mb A (T.rmv id).nodes k) : Own t mb A T.nodes k := own_del k h
theorem own_rel {id : Int} (k : Nat) (h : Own t mb A (T.rel id).nodes k) : Own t mb A T.nodes k := by
  unfold Tb.rel at h
  split at h
  · exact own_rmv k h
  · exact h
theorem own_lose {id : Int} (k : Nat) (h : Own t mb A (T.lose id).nodes k) : Own t mb A T.nodes k := own_upd (f := Nd.addLinks (-1)) (fun _ => rfl) k (own_rel k h)
theorem own_rename {dir : Int} {name : List UInt8} {dst : Int} {nm : List UInt8} (k : Nat) (h : Own t mb A (T.rename dir name dst nm).nodes k) : Own t mb A T.nodes k := by
  have hm : ∀ k, Own t mb A (T.moved dir name dst nm).nodes k → Own t mb A T.nodes k := fun k hk => own_upd (f := Nd.putName nm (T.tgt dir name)) (fun _ => rfl) k (own_upd (f := Nd.delName name) (fun _ => rfl) k hk)
  unfold Tb.rename at h
  split at h
  · split at h
    · exact h
    · exact hm k (own_lose k h)
  · exact hm k h
theorem own_write {id a : Int} {s : List UInt8} (k : Nat) (h : Own t mb A (T.write id a s).nodes k) : Own t mb A T.nodes k := by
  unfold Tb.write at h
  split at h
  · exact h
  · exact own_upd (f := Nd.setData _) (fun _ => rfl) k h
end

/-! ### Bounds -/
structure Bd (T : Tb) (N : Nat) : Prop where
  last : 1 ≤ T.last ∧ T.last ≤ N + 1
  len : T.nodes.length ≤ 4096
  quo : T.used ≤ T.quota ∧ 64 ≤ T.quota ∧ T.quota ≤ 1099511627776
  nod : ∀ id n, aget id T.nodes = some n → n.names.length ≤ N ∧ n.links ≤ N + 1
theorem Bd.ok {T : Tb} {N : Nat} (b : Bd T N) (h : Wf T) (hN : N < 1000000000) : Ok T :=
  wf_ok_lead h (N := N + 1) ⟨b.quo.1, b.quo.2.2⟩ (by have := b.last; omega) b.len (by omega) (fun id n hn => by have := b.nod _ _ hn; omega)
theorem Bd.up {T : Tb} {N : Nat} (b : Bd T N) : Bd T (N + 1) := ⟨by have := b.last; omega, b.len, b.quo, fun id n hn => by have := b.nod _ _ hn; omega⟩
theorem Bd.upd {T : Tb} {N : Nat} (b : Bd T N) {id : Int} {f : Nd → Nd} {M : Nat} (hM : N ≤ M) (hf : ∀ n, aget id T.nodes = some n → (f n).names.length ≤ M ∧ (f n).links ≤ M + 1) : Bd (T.upd id f) M :=
  ⟨by have := b.last; show 1 ≤ T.last ∧ T.last ≤ _; omega, by show (amod id f T.nodes).length ≤ 4096; rw [length_mod]; exact b.len, b.quo, fun i n hn => by
    rw [upd_get] at hn
    split at hn
    · cases hg : aget id T.nodes with
      | none => rw [hg] at hn; cases hn
      | some m => rw [hg] at hn; cases hn; exact hf m hg
    · have := b.nod _ _ hn; omega⟩
theorem Bd.used {T : Tb} {N : Nat} (b : Bd T N) {u : Int} (hu : u ≤ T.quota) : Bd { T with used := u } N := ⟨b.last, b.len, ⟨hu, b.quo.2⟩, b.nod⟩
theorem Bd.del {T : Tb} {N : Nat} (b : Bd T N) (id : Int) : Bd (T.rmv id) N :=
  ⟨b.last, by have := length_del_le id T.nodes; have := b.len; show (adel id T.nodes).length ≤ 4096; omega, by have := b.quo; show T.used - _ ≤ T.quota ∧ _; exact ⟨by omega, b.quo.2⟩, fun i n hn => by
    change aget i (adel id T.nodes) = some n at hn
    rw [aget_del] at hn
    split at hn
    · cases hn
    · exact b.nod _ _ hn⟩
theorem Bd.rel {T : Tb} {N : Nat} (b : Bd T N) (id : Int) : Bd (T.rel id) N := by
  unfold Tb.rel
  split
  · exact b.del id
  · exact b
theorem Bd.lose {T : Tb} {N : Nat} (b : Bd T N) (id : Int) : Bd (T.lose id) N :=
  (b.upd (Nat.le_refl _) (fun n hn => by have := b.nod _ _ hn; show n.names.length ≤ N ∧ n.links + -1 ≤ N + 1; omega)).rel id
theorem Bd.put {T : Tb} {N : Nat} (b : Bd T N) (id : Int) (s : List UInt8) (v : Int) : Bd (T.upd id (Nd.putName s v)) (N + 1) :=
  b.upd (Nat.le_succ _) (fun n hn => by have := b.nod _ _ hn; have := length_put_le (lt := bytesBefore) s v n.names; show (aput bytesBefore s v n.names).length ≤ N + 1 ∧ n.links ≤ _; omega)
theorem Bd.delN {T : Tb} {N : Nat} (b : Bd T N) (id : Int) (s : List UInt8) : Bd (T.upd id (Nd.delName s)) N :=
  b.upd (Nat.le_refl _) (fun n hn => by have := b.nod _ _ hn; have := length_del_le s n.names; show (adel s n.names).length ≤ N ∧ n.links ≤ _; omega)
theorem bd_link {T : Tb} {N : Nat} (b : Bd T N) {id dir : Int} {name : List UInt8} (h : T.linkE id dir name = 0) : Bd (T.link id dir name) (N + 1) := by
  refine (b.put dir name id).upd (Nat.le_refl _) fun n hn => ?_
  rw [upd_get] at hn
  split at hn
  · next e =>
    cases hg : aget dir T.nodes with
    | none => rw [hg] at hn; cases hn
    | some m =>
      rw [hg] at hn; cases hn
      have := b.nod _ _ hg
      have := length_put_le (lt := bytesBefore) name id m.names
      show (aput bytesBefore name id m.names).length ≤ N + 1 ∧ m.links + 1 ≤ _
      omega
  · have := b.nod _ _ hn
    show n.names.length ≤ N + 1 ∧ n.links + 1 ≤ _
    omega
theorem bd_make {T : Tb} {N : Nat} (b : Bd T N) {dir : Int} {name : List UInt8} (isDir : Bool) (h : T.mkE dir name = 0) : Bd (T.make dir name isDir) (N + 1) := by
  have hlen : (T.nodes.length : Int) < 4096 ∧ 64 ≤ T.quota - T.used := by
    unfold Tb.mkE at h
    split at h
    · split at h
      · cases h
      · next h1 =>
        split at h
        · cases h
        · next h2 => omega
    · next hk => exact absurd h hk
  have hb := b.last
  have hl2 := length_put_le (lt := ltI) (T.last + 1) (⟨isDir, 1, 0, [], []⟩ : Nd) T.nodes
  have get : ∀ i n, aget i (T.add isDir).nodes = some n → n.names.length ≤ N ∧ n.links ≤ N + 1 := fun i n hn => by
    change aget i (aput ltI (T.last + 1) _ T.nodes) = some n at hn
    rw [aget_put] at hn
    split at hn
    · cases hn; exact ⟨Nat.zero_le _, by show (1 : Int) ≤ _; omega⟩
    · exact b.nod _ _ hn
  refine ⟨by show 1 ≤ T.last + 1 ∧ T.last + 1 ≤ _; omega, ?_, ⟨by show T.used + 64 ≤ T.quota; omega, b.quo.2⟩, fun i n hn => ?_⟩
  · show (amod dir _ (T.add isDir).nodes).length ≤ 4096
    rw [length_mod]
    show (aput ltI (T.last + 1) _ T.nodes).length ≤ 4096
    omega
  · change aget i (amod dir (Nd.putName name (T.last + 1)) (T.add isDir).nodes) = some n at hn
    rw [aget_mod] at hn
    split at hn
    · cases hg : aget dir (T.add isDir).nodes with
      | none => rw [hg] at hn; cases hn
      | some m =>
        rw [hg] at hn; cases hn
        have := get _ _ hg
        have := length_put_le (lt := bytesBefore) name (T.last + 1) m.names
        show (aput bytesBefore name _ m.names).length ≤ N + 1 ∧ m.links ≤ _
        omega
    · have := get _ _ hn; omega
theorem bd_data {T : Tb} {N : Nat} (b : Bd T N) {id : Int} {s : List UInt8} (h : (s.length : Int) - (T.nd id).data.length ≤ T.quota - T.used) : Bd (T.setData id s) N := by
  have h1 : Bd (T.upd id (Nd.setData s)) N := b.upd (Nat.le_refl _) (fun n hn => by have := b.nod _ _ hn; show n.names.length ≤ N ∧ n.links ≤ _; omega)
  exact h1.used (u := T.used + (s.length - (T.nd id).data.length)) (by show _ ≤ T.quota; omega)
theorem bd_rename {T : Tb} {N : Nat} (b : Bd T N) (dir : Int) (name : List UInt8) (dst : Int) (nm : List UInt8) : Bd (T.rename dir name dst nm) (N + 1) := by
  have hm : Bd (T.moved dir name dst nm) (N + 1) := (b.put dst nm _).delN dir name
  unfold Tb.rename
  split
  · split
    · exact b.up
    · exact hm.lose _
  · exact hm

/-- What holds, and the bounds, hold behind each act. -/
theorem step_wf {T : Tb} {N : Nat} (h : Wf T) (b : Bd T N) (hN : N < 1000000000) (a : AcT) : Wf (T.step a).1 ∧ Bd (T.step a).1 (N + 1) := by
  have ok := b.ok h hN
  have c1 : Wf (if T.mkE a.dir a.name = 0 then T.make a.dir a.name a.flag else T) ∧ Bd (if T.mkE a.dir a.name = 0 then T.make a.dir a.name a.flag else T) (N + 1) := by
    split
    · next hE =>
      have hn : T.newE a.dir a.name = 0 := by
        unfold Tb.mkE at hE
        split at hE
        · assumption
        · next hk => exact absurd hE hk
      exact ⟨wf_make h a.flag (by have := b.last; omega) hn, bd_make b a.flag hE⟩
    · exact ⟨h, b.up⟩
  have c3 : Wf (if T.linkE a.id a.dir a.name = 0 then T.link a.id a.dir a.name else T) ∧ Bd (if T.linkE a.id a.dir a.name = 0 then T.link a.id a.dir a.name else T) (N + 1) := by
    split
    · next hE => exact ⟨wf_link h hE, bd_link b hE⟩
    · exact ⟨h, b.up⟩
  have c4 : Wf (if T.ofE a.dir a.name false = 0 then T.unlink a.dir a.name else T) ∧ Bd (if T.ofE a.dir a.name false = 0 then T.unlink a.dir a.name else T) (N + 1) := by
    split
    · next hE => exact ⟨wf_unlink h ok hE, ((b.delN a.dir a.name).lose _).up⟩
    · exact ⟨h, b.up⟩
  have c5 : Wf (if T.removeE a.dir a.name = 0 then T.remove a.dir a.name else T) ∧ Bd (if T.removeE a.dir a.name = 0 then T.remove a.dir a.name else T) (N + 1) := by
    split
    · next hE => exact ⟨wf_remove h ok hE, ((b.delN a.dir a.name).del _).up⟩
    · exact ⟨h, b.up⟩
  have c6 : Wf (if T.renE a.dir a.name a.n a.nm = 0 then T.rename a.dir a.name a.n a.nm else T) ∧ Bd (if T.renE a.dir a.name a.n a.nm = 0 then T.rename a.dir a.name a.n a.nm else T) (N + 1) := by
    split
    · next hE => exact ⟨wf_rename h ok hE, bd_rename b _ _ _ _⟩
    · exact ⟨h, b.up⟩
  have c8 : Wf (if T.writeE a.id a.at_ a.nm = 0 then T.write a.id a.at_ a.nm else T) ∧ Bd (if T.writeE a.id a.at_ a.nm = 0 then T.write a.id a.at_ a.nm else T) (N + 1) := by
    split
    · next hE =>
      unfold Tb.writeE at hE
      split at hE
      · next hf =>
        split at hE
        · cases hE
        · next h1 =>
          unfold Tb.write
          split
          · exact ⟨h, b.up⟩
          · next hs =>
            rw [if_neg hs] at hE
            split at hE
            · next hB =>
              obtain ⟨n, hn, _, h0, _⟩ := file_parts hf
              refine ⟨wf_data h hf _, (bd_data b ?_).up⟩
              unfold Tb.fitsB at hB
              rw [decide_eq_true_eq] at hB
              have hd := ok.dat _ _ hn
              rw [nd_of hn] at hB ⊢
              simp only [List.length_append, firstL_len, List.length_drop]
              have hq := b.quo
              omega
            · cases hE
      · next hk => exact absurd hE hk
    · exact ⟨h, b.up⟩
  have c9 : Wf (if T.truncE a.id a.n = 0 then T.trunc a.id a.n else T) ∧ Bd (if T.truncE a.id a.n = 0 then T.trunc a.id a.n else T) (N + 1) := by
    split
    · next hE =>
      unfold Tb.truncE at hE
      split at hE
      · next hf =>
        split at hE
        · cases hE
        · split at hE
          · next hB =>
            obtain ⟨n, hn, _, h0, _⟩ := file_parts hf
            refine ⟨wf_data h hf _, (bd_data b ?_).up⟩
            unfold Tb.fitsB at hB
            rw [decide_eq_true_eq] at hB
            rw [firstL_len]
            omega
          · cases hE
      · next hk => exact absurd hE hk
    · exact ⟨h, b.up⟩
  have c10 : Wf (if T.holdE a.id = 0 then T.upd a.id (Nd.addHolds 1) else T) ∧ Bd (if T.holdE a.id = 0 then T.upd a.id (Nd.addHolds 1) else T) (N + 1) := by
    split
    · next hE => exact ⟨wf_hold h hE, (b.upd (Nat.le_refl _) (fun n hn => by have := b.nod _ _ hn; show n.names.length ≤ N ∧ n.links ≤ _; omega)).up⟩
    · exact ⟨h, b.up⟩
  have c11 : Wf (if T.dropE a.id = 0 then T.drop a.id else T) ∧ Bd (if T.dropE a.id = 0 then T.drop a.id else T) (N + 1) := by
    split
    · next hE => exact ⟨wf_drop h hE, ((b.upd (f := Nd.addHolds (-1)) (Nat.le_refl _) (fun n hn => by have := b.nod _ _ hn; show n.names.length ≤ N ∧ n.links ≤ _; omega)).rel _).up⟩
    · exact ⟨h, b.up⟩
  unfold Tb.step
  by_cases h1 : a.kind = 1; · rw [if_pos h1]; exact c1
  rw [if_neg h1]
  by_cases h2 : a.kind = 2; · rw [if_pos h2]; exact ⟨h, b.up⟩
  rw [if_neg h2]
  by_cases h3 : a.kind = 3; · rw [if_pos h3]; exact c3
  rw [if_neg h3]
  by_cases h4 : a.kind = 4; · rw [if_pos h4]; exact c4
  rw [if_neg h4]
  by_cases h5 : a.kind = 5; · rw [if_pos h5]; exact c5
  rw [if_neg h5]
  by_cases h6 : a.kind = 6; · rw [if_pos h6]; exact c6
  rw [if_neg h6]
  by_cases h7 : a.kind = 7; · rw [if_pos h7]; exact ⟨h, b.up⟩
  rw [if_neg h7]
  by_cases h8 : a.kind = 8; · rw [if_pos h8]; exact c8
  rw [if_neg h8]
  by_cases h9 : a.kind = 9; · rw [if_pos h9]; exact c9
  rw [if_neg h9]
  by_cases h10 : a.kind = 10; · rw [if_pos h10]; exact c10
  rw [if_neg h10]
  by_cases h11 : a.kind = 11; · rw [if_pos h11]; exact c11
  rw [if_neg h11]
  exact ⟨h, b.up⟩
end Go.Proofs.YtagdhghjcibfbaaGreat

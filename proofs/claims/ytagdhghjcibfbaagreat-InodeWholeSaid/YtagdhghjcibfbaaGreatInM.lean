/- Layer 8: the mathematics: maps as rising lists; what a map of numbers reads as. -/
import Derived.Maps.Ext
namespace Go.Proofs.YtagdhghjcibfbaaGreat
set_option linter.unusedVariables false
set_option linter.unusedSectionVars false

section
variable {α β γ : Type} [DecidableEq α]
def aget (k : α) : List (α × β) → Option β
  | [] => none
  | y :: r => if y.1 = k then some y.2 else aget k r
def adel (k : α) (l : List (α × β)) : List (α × β) := l.filter (fun p => !decide (p.1 = k))
def ains (lt : α → α → Bool) (x : α × β) : List (α × β) → List (α × β)
  | [] => [x]
  | y :: r => if lt x.1 y.1 then x :: y :: r else y :: ains lt x r
def aput (lt : α → α → Bool) (k : α) (v : β) (l : List (α × β)) : List (α × β) := ains lt (k, v) (adel k l)
def amod (k : α) (f : β → β) (l : List (α × β)) : List (α × β) := l.map (fun p => if p.1 = k then (p.1, f p.2) else p)
def Ris (lt : α → α → Bool) (l : List (α × β)) : Prop := l.Pairwise (fun p q => lt p.1 q.1 = true)
structure Ord (lt : α → α → Bool) : Prop where
  irr : ∀ a, lt a a = false
  tr : ∀ a b c, lt a b = true → lt b c = true → lt a c = true
  tot : ∀ a b, a ≠ b → lt a b = false → lt b a = true

variable {lt : α → α → Bool}
theorem ains_perm (x : α × β) : ∀ l : List (α × β), (ains lt x l).Perm (x :: l)
  | [] => .refl _
  | y :: r => by
    unfold ains
    split
    · exact .refl _
    · exact ((ains_perm x r).cons y).trans (.swap x y r)
theorem mem_ains {x p : α × β} {l : List (α × β)} : p ∈ ains lt x l ↔ p = x ∨ p ∈ l := by rw [(ains_perm x l).mem_iff, List.mem_cons]
theorem mem_adel {k : α} {p : α × β} {l : List (α × β)} : p ∈ adel k l ↔ p ∈ l ∧ p.1 ≠ k := by unfold adel; rw [List.mem_filter]; simp
theorem ris_ains (O : Ord lt) {x : α × β} : ∀ {l : List (α × β)}, Ris lt l → (∀ p ∈ l, p.1 ≠ x.1) → Ris lt (ains lt x l)
  | [], _, _ => List.pairwise_singleton _ _
  | y :: r, h, hx => by
    obtain ⟨h1, h2⟩ := List.pairwise_cons.1 h
    unfold ains
    split
    · next hl =>
      refine List.pairwise_cons.2 ⟨fun q hq => ?_, h⟩
      rcases List.mem_cons.1 hq with rfl | hq
      · exact hl
      · exact O.tr _ _ _ hl (h1 q hq)
    · next hl =>
      have hl' : lt y.1 x.1 = true := O.tot _ _ (fun e => hx y (by simp) e.symm) (by simpa using hl)
      refine List.pairwise_cons.2 ⟨fun q hq => ?_, ris_ains O h2 (fun p hp => hx p (by simp [hp]))⟩
      rcases mem_ains.1 hq with rfl | hq
      · exact hl'
      · exact h1 q hq
theorem ris_del {k : α} {l : List (α × β)} (h : Ris lt l) : Ris lt (adel k l) := List.Pairwise.filter _ h
theorem ris_put (O : Ord lt) {k : α} {v : β} {l : List (α × β)} (h : Ris lt l) : Ris lt (aput lt k v l) :=
  ris_ains O (ris_del h) (fun p hp => (mem_adel.1 hp).2)
theorem ris_mod {k : α} {f : β → β} {l : List (α × β)} (h : Ris lt l) : Ris lt (amod k f l) := by
  unfold amod Ris
  rw [List.pairwise_map]
  exact h.imp (fun {p q} hpq => by split <;> split <;> exact hpq)
theorem ris_ne (O : Ord lt) {l : List (α × β)} (h : Ris lt l) : l.Pairwise (fun p q => p.1 ≠ q.1) :=
  h.imp (fun {p q} hpq e => by rw [e, O.irr] at hpq; cases hpq)
theorem aget_none {k : α} : ∀ {l : List (α × β)}, aget k l = none ↔ ∀ p ∈ l, p.1 ≠ k
  | [] => by simp [aget]
  | y :: r => by
    unfold aget
    split
    · next e => simp [e]
    · next e => rw [aget_none (l := r)]; simp [e]
theorem aget_mem {k : α} {v : β} : ∀ {l : List (α × β)}, aget k l = some v → (k, v) ∈ l
  | [], h => by cases h
  | y :: r, h => by
    unfold aget at h
    split at h
    · next e => cases h; rw [← e]; simp
    · exact List.mem_cons_of_mem _ (aget_mem h)
theorem mem_aget {k : α} {v : β} : ∀ {l : List (α × β)}, l.Pairwise (fun p q => p.1 ≠ q.1) → (k, v) ∈ l → aget k l = some v
  | [], _, h => by cases h
  | y :: r, hp, h => by
    obtain ⟨h1, h2⟩ := List.pairwise_cons.1 hp
    unfold aget
    rcases List.mem_cons.1 h with rfl | h
    · simp
    · rw [if_neg (h1 _ h)]; exact mem_aget h2 h
theorem aget_del (k k' : α) : ∀ l : List (α × β), aget k' (adel k l) = if k' = k then none else aget k' l
  | [] => by simp [adel, aget]
  | y :: r => by
    have ih := aget_del k k' r
    unfold adel at ih ⊢
    rw [List.filter_cons]
    by_cases h : y.1 = k
    · rw [if_neg (by simp [h]), ih]
      by_cases h2 : k' = k
      · rw [if_pos h2, if_pos h2]
      · rw [if_neg h2, if_neg h2]; show _ = if y.1 = k' then some y.2 else aget k' r; rw [if_neg (fun e => h2 (e.symm.trans h))]
    · rw [if_pos (by simp [h])]
      show (if y.1 = k' then some y.2 else aget k' _) = if k' = k then none else (if y.1 = k' then some y.2 else aget k' r)
      by_cases h2 : y.1 = k'
      · rw [if_pos h2, if_pos h2, if_neg (fun e => h (h2.trans e))]
      · rw [if_neg h2, if_neg h2, ih]
theorem aget_ins {k : α} {v : β} (k' : α) : ∀ {l : List (α × β)}, (∀ p ∈ l, p.1 ≠ k) → aget k' (ains lt (k, v) l) = if k' = k then some v else aget k' l
  | [], _ => by
    show (if k = k' then some v else none) = _
    by_cases h : k' = k
    · rw [if_pos h, if_pos h.symm]
    · rw [if_neg h, if_neg (fun e => h e.symm)]; rfl
  | y :: r, hx => by
    have hy := hx y (by simp)
    unfold ains
    split
    · show (if k = k' then some v else aget k' (y :: r)) = _
      by_cases h : k' = k
      · rw [if_pos h, if_pos h.symm]
      · rw [if_neg h, if_neg (fun e => h e.symm)]
    · show (if y.1 = k' then some y.2 else aget k' _) = if k' = k then some v else (if y.1 = k' then some y.2 else aget k' r)
      rw [aget_ins k' (fun p hp => hx p (by simp [hp]))]
      by_cases h : y.1 = k'
      · rw [if_pos h, if_pos h, if_neg (fun e => hy (h.trans e))]
      · rw [if_neg h, if_neg h]
theorem aget_put (k k' : α) (v : β) (l : List (α × β)) : aget k' (aput lt k v l) = if k' = k then some v else aget k' l := by
  unfold aput
  rw [aget_ins k' (fun p hp => (mem_adel.1 hp).2), aget_del]
  split <;> rfl
theorem aget_mod (k k' : α) (f : β → β) : ∀ l : List (α × β), aget k' (amod k f l) = if k' = k then (aget k l).map f else aget k' l
  | [] => by simp [amod, aget]
  | y :: r => by
    have ih := aget_mod k k' f r
    unfold amod at ih ⊢
    rw [List.map_cons]
    by_cases h : y.1 = k
    · rw [if_pos h]
      show (if y.1 = k' then some (f y.2) else aget k' _) = if k' = k then Option.map f (if y.1 = k then some y.2 else aget k r) else (if y.1 = k' then some y.2 else aget k' r)
      by_cases h2 : k' = k
      · rw [if_pos (h.trans h2.symm), if_pos h2, if_pos h]; rfl
      · have h3 : y.1 ≠ k' := fun e => h2 (e.symm.trans h)
        rw [if_neg h3, if_neg h2, if_neg h3, ih, if_neg h2]
    · rw [if_neg h]
      show (if y.1 = k' then some y.2 else aget k' _) = if k' = k then Option.map f (if y.1 = k then some y.2 else aget k r) else (if y.1 = k' then some y.2 else aget k' r)
      rw [if_neg h, ih]
      by_cases h2 : k' = k
      · rw [if_pos h2, if_pos h2, if_neg (fun e => h (e.trans h2))]
      · rw [if_neg h2, if_neg h2]
theorem adel_fresh {k : α} {l : List (α × β)} (h : aget k l = none) : adel k l = l := by
  unfold adel
  rw [List.filter_eq_self]
  intro p hp
  have := aget_none.1 h p hp
  simpa using this
theorem length_ains (x : α × β) (l : List (α × β)) : (ains lt x l).length = l.length + 1 := by rw [(ains_perm x l).length_eq]; rfl
theorem length_put_fresh {k : α} {v : β} {l : List (α × β)} (h : aget k l = none) : (aput lt k v l).length = l.length + 1 := by unfold aput; rw [length_ains, adel_fresh h]
theorem length_del_le (k : α) (l : List (α × β)) : (adel k l).length ≤ l.length := List.length_filter_le _ _
theorem length_put_le (k : α) (v : β) (l : List (α × β)) : (aput lt k v l).length ≤ l.length + 1 := by unfold aput; rw [length_ains]; have := length_del_le k l; omega
theorem length_mod (k : α) (f : β → β) (l : List (α × β)) : (amod k f l).length = l.length := by unfold amod; rw [List.length_map]
theorem aput_last {k : α} {v : β} : ∀ {l : List (α × β)}, (∀ p ∈ l, lt k p.1 = false ∧ p.1 ≠ k) → aput lt k v l = l ++ [(k, v)] := by
  intro l h
  unfold aput
  rw [adel_fresh (aget_none.2 fun p hp => (h p hp).2)]
  induction l with
  | nil => rfl
  | cons y r ih =>
    unfold ains
    rw [if_neg (by rw [(h y (by simp)).1]; simp), ih (fun p hp => h p (by simp [hp]))]
    rfl
/-- What maps lists of values. -/
theorem ains_map (f : α × β → γ) (x : α × β) : ∀ l : List (α × β), (ains lt x l).map (fun p => (p.1, f p)) = ains lt (x.1, f x) (l.map (fun p => (p.1, f p)))
  | [] => rfl
  | y :: r => by
    by_cases h : lt x.1 y.1 = true
    · simp only [ains, if_pos h, List.map_cons]
    · simp only [ains, if_neg h, List.map_cons, ains_map f x r]
theorem adel_map (f : α × β → γ) (k : α) (l : List (α × β)) : (adel k l).map (fun p => (p.1, f p)) = adel k (l.map (fun p => (p.1, f p))) := by
  unfold adel
  rw [List.filter_map]
  rfl
theorem sum_ains (g : α × β → Nat) (x : α × β) (l : List (α × β)) : ((ains lt x l).map g).sum = g x + (l.map g).sum := by
  rw [((ains_perm x l).map g).sum_nat]; rfl
theorem sum_del {k : α} {v : β} (g : α × β → Nat) : ∀ {l : List (α × β)}, l.Pairwise (fun p q => p.1 ≠ q.1) → aget k l = some v → ((adel k l).map g).sum + g (k, v) = (l.map g).sum
  | [], _, h => by cases h
  | y :: r, hp, h => by
    obtain ⟨h1, h2⟩ := List.pairwise_cons.1 hp
    unfold aget at h
    by_cases e : y.1 = k
    · rw [if_pos e] at h
      cases h
      have : adel k (y :: r) = r := by
        unfold adel
        rw [List.filter_cons, if_neg (by simp [e]), List.filter_eq_self]
        intro p hp
        have := h1 p hp
        rw [e] at this
        simpa using fun e2 => this e2.symm
      rw [this, List.map_cons, List.sum_cons, ← e]
      exact Nat.add_comm _ _
    · rw [if_neg e] at h
      have ih := sum_del g h2 h
      have : adel k (y :: r) = y :: adel k r := by unfold adel; rw [List.filter_cons, if_pos (by simp [e])]
      rw [this, List.map_cons, List.sum_cons, List.map_cons, List.sum_cons]
      omega
theorem sum_mod {k : α} {v : β} (f : β → β) (g : α × β → Nat) : ∀ {l : List (α × β)}, l.Pairwise (fun p q => p.1 ≠ q.1) → aget k l = some v → ((amod k f l).map g).sum + g (k, v) = (l.map g).sum + g (k, f v)
  | [], _, h => by cases h
  | y :: r, hp, h => by
    obtain ⟨h1, h2⟩ := List.pairwise_cons.1 hp
    unfold aget at h
    by_cases e : y.1 = k
    · rw [if_pos e] at h
      cases h
      have : amod k f r = r := by
        unfold amod
        conv => rhs; rw [← List.map_id r]
        refine List.map_congr_left fun p hp => ?_
        rw [if_neg (fun e2 => h1 p hp (e.trans e2.symm))]; rfl
      show (((if y.1 = k then (y.1, f y.2) else y) :: amod k f r).map g).sum + _ = _
      rw [this, if_pos e, List.map_cons, List.sum_cons, List.map_cons, List.sum_cons, ← e]
      show g (y.1, f y.2) + _ + g y = g y + _ + g (y.1, f y.2)
      omega
    · rw [if_neg e] at h
      have ih := sum_mod f g h2 h
      show (((if y.1 = k then (y.1, f y.2) else y) :: amod k f r).map g).sum + _ = _
      rw [if_neg e, List.map_cons, List.sum_cons, List.map_cons, List.sum_cons]
      omega
end

/-! ### What a map of numbers reads as -/
section
variable {α : Type} [DecidableEq α] {lt : α → α → Bool} {kl : α → Lit}
def mapD (kl : α → Lit) (l : List (α × Int)) : DataW Unit := .map (l.map fun p => (kl p.1, .lit (.int .i64 p.2)))
structure KL (lt : α → α → Bool) (kl : α → Lit) : Prop where
  bef : ∀ a b, (kl a).before (kl b) = lt a b
  same : ∀ a b, (kl a).sameKey (kl b) = decide (a = b)
variable (K : KL lt kl)
include K
theorem mapD_ins (x : α × Int) : ∀ l : List (α × Int), DataW.insert (kl x.1, (.lit (.int .i64 x.2) : DataW Unit)) (l.map fun p => (kl p.1, .lit (.int .i64 p.2))) = (ains lt x l).map fun p => (kl p.1, .lit (.int .i64 p.2))
  | [] => rfl
  | y :: r => by
    rw [List.map_cons]
    unfold DataW.insert ains
    rw [K.bef]
    split
    · rfl
    · rw [List.map_cons, mapD_ins x r]
theorem mapD_flt (k : α) (l : List (α × Int)) : ((l.map fun p => (kl p.1, (.lit (.int .i64 p.2) : DataW Unit))).filter fun p => !p.1.sameKey (kl k)) = (adel k l).map fun p => (kl p.1, .lit (.int .i64 p.2)) := by
  unfold adel
  rw [List.filter_map]
  congr 1
  refine List.filter_congr fun p _ => ?_
  show (!(kl p.1).sameKey (kl k)) = _
  rw [K.same]
theorem mapD_put (k : α) (v : Int) (l : List (α × Int)) : (mapD kl l).put (kl k) (.lit (.int .i64 v)) = mapD kl (aput lt k v l) := by
  show DataW.map (DataW.insert _ _) = _
  rw [mapD_flt K, mapD_ins K (k, v)]; rfl
theorem mapD_del (k : α) (l : List (α × Int)) : (mapD kl l).del (kl k) = mapD kl (adel k l) := by
  show DataW.map _ = _
  rw [mapD_flt K]; rfl
theorem mapD_at (k : α) (z : DataW Unit) : ∀ l : List (α × Int), (mapD kl l).atKey (kl k) z = match aget k l with | some v => .lit (.int .i64 v) | none => z
  | [] => rfl
  | y :: r => by
    have ih := mapD_at k z r
    unfold DataW.atKey mapD at ih ⊢
    simp only [List.map_cons, List.find?_cons, K.same]
    simp only at ih
    by_cases e : y.1 = k
    · simp [aget, e]
    · simp only [aget, if_neg e, decide_eq_false e]; exact ih
theorem mapD_has (k : α) : ∀ l : List (α × Int), Maps.has (mapD kl l) (kl k) = (aget k l).isSome
  | [] => rfl
  | y :: r => by
    have ih := mapD_has k r
    show (((kl y.1, (.lit (.int .i64 y.2) : DataW Unit)) :: r.map fun p => (kl p.1, (.lit (.int .i64 p.2) : DataW Unit))).any fun p => p.1.sameKey (kl k)) = _
    rw [List.any_cons]
    show ((kl y.1).sameKey (kl k) || Maps.has (mapD kl r) (kl k)) = _
    rw [K.same, ih]
    by_cases e : y.1 = k
    · simp [aget, e]
    · simp [aget, e]
end
theorem mapD_size {α : Type} (kl : α → Lit) (l : List (α × Int)) : Maps.size (mapD kl l) = l.length := by
  show (l.map _).length = _
  rw [List.length_map]

/-! ### The two orders -/
def ltI (a b : Int) : Bool := decide (a < b)
def klI (a : Int) : Lit := .int .i64 a
def klS (s : List UInt8) : Lit := .string s
theorem ord_I : Ord ltI := ⟨fun a => by simp [ltI], fun a b c h1 h2 => by simp [ltI] at *; omega, fun a b h1 h2 => by simp [ltI] at *; omega⟩
theorem bb_irr : ∀ a : List UInt8, bytesBefore a a = false
  | [] => rfl
  | x :: r => by unfold bytesBefore; simp [bb_irr r, UInt8.lt_irrefl]
theorem bb_tot : ∀ a b : List UInt8, a ≠ b → bytesBefore a b = false → bytesBefore b a = true
  | [], [], h, _ => absurd rfl h
  | [], _ :: _, _, h => by cases h
  | _ :: _, [], _, _ => rfl
  | x :: r, y :: s, hne, h => by
    unfold bytesBefore at h ⊢
    simp only [Bool.or_eq_false_iff, decide_eq_false_iff_not, Bool.and_eq_false_imp, beq_iff_eq] at h
    by_cases e : x = y
    · subst e
      have : r ≠ s := fun e => hne (by rw [e])
      simp [bb_tot r s this (h.2 rfl)]
    · have : y < x := by
        rw [UInt8.lt_iff_toNat_lt] at *
        have : x.toNat ≠ y.toNat := fun e2 => e (UInt8.toNat_inj.1 e2)
        omega
      simp [this]
theorem bb_tr : ∀ a b c : List UInt8, bytesBefore a b = true → bytesBefore b c = true → bytesBefore a c = true
  | [], [], _, h, _ => by cases h
  | [], _ :: _, [], _, h => by cases h
  | [], _ :: _, _ :: _, _, _ => rfl
  | _ :: _, [], _, h, _ => by cases h
  | _ :: _, _ :: _, [], _, h => by cases h
  | x :: r, y :: s, z :: t, h1, h2 => by
    unfold bytesBefore at *
    simp only [Bool.or_eq_true, decide_eq_true_eq, Bool.and_eq_true, beq_iff_eq] at *
    rcases h1 with h1 | ⟨rfl, h1⟩
    · rcases h2 with h2 | ⟨rfl, h2⟩
      · exact .inl (UInt8.lt_trans h1 h2)
      · exact .inl h1
    · rcases h2 with h2 | ⟨rfl, h2⟩
      · exact .inl h2
      · exact .inr ⟨rfl, bb_tr r s t h1 h2⟩
theorem ord_S : Ord bytesBefore := ⟨bb_irr, bb_tr, bb_tot⟩
theorem kl_I : KL ltI klI := ⟨fun a b => rfl, fun a b => by unfold klI Lit.sameKey; simp⟩
theorem kl_S : KL bytesBefore klS := ⟨fun a b => rfl, fun a b => by
  show (a == b) = _
  rw [Bool.eq_iff_iff]; simp⟩
end Go.Proofs.YtagdhghjcibfbaaGreat

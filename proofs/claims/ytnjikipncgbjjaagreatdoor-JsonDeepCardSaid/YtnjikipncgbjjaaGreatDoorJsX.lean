/- The walk through a value, as a machine on a stack: no world. -/
import Derived.Test.YtnjikipncgbjjaaGreatDoorJsW
namespace Go.Proofs.YtnjikipncgbjjaaGreatDoor
set_option linter.unusedVariables false
set_option linter.unusedSectionVars false

/-- What the walk walks through: nodes, what stands in each, a size that falls, the depth, the work. -/
structure Tr (α : Type) where
  kids : α → List α
  sz : α → Nat
  fall : ∀ a c, c ∈ kids a → sz c < sz a
  dep : α → Nat
  dep_eq : ∀ a, dep a = (kids a).foldl (fun g c => max g (dep c)) 0 + 1
  work : α → Nat
  work_eq : ∀ a, work a = ((kids a).map work).sum + 2

section
variable {α : Type} [DecidableEq α] (T : Tr α) (r : α)

/-- Below the root. -/
inductive Tr.Sub : α → Prop
  | root : Tr.Sub r
  | kid {a c : α} : Tr.Sub a → c ∈ T.kids a → Tr.Sub c

/-- What holds between two rounds: the stack (its top ahead; true: opened), the map (0: open), what was visited. -/
structure WI (st : List (α × Bool)) (f : α → Option Nat) (vs : List α) : Prop where
  opened : ∀ a, f a = some 0 ↔ (a, true) ∈ st
  falls : st.Pairwise fun x y => y.2 = true → T.sz x.1 < T.sz y.1
  above : ∀ l1 a l2, st = l1 ++ (a, true) :: l2 → ∀ c ∈ T.kids a, T.kids c ≠ [] → (∃ d, f c = some (d + 1)) ∨ c ∈ l1.map (·.1)
  done : ∀ a d, f a = some (d + 1) → d + 1 = T.dep a ∧ ∀ c ∈ T.kids a, T.kids c ≠ [] → ∃ d', f c = some (d' + 1)
  root : r ∈ st.map (·.1) ∨ ∃ d, f r = some (d + 1)
  seen : ∀ a, f a ≠ none → a ∈ vs ∧ ∀ c ∈ T.kids a, T.kids c = [] → c ∈ vs
  sub : (∀ x ∈ st, Tr.Sub T r x.1) ∧ ∀ a ∈ vs, Tr.Sub T r a

/-- The work that is left. -/
def wLeft (st : List (α × Bool)) : Nat := (st.map fun x => if x.2 then 1 else T.work x.1).sum

theorem WI.start : WI T r [(r, false)] (fun _ => none) [] where
  opened a := by simp
  falls := by simp
  above l1 a l2 h := by
    cases l1 with
    | nil => simp at h
    | cons x l1 => simp at h
  done a d h := by simp at h
  root := by simp
  seen a h := by simp at h
  sub := ⟨by simp; exact Tr.Sub.root, by simp⟩

variable {T r} {st : List (α × Bool)} {f : α → Option Nat} {vs : List α}

theorem WI.top_open {a : α} {b : Bool} (h : WI T r ((a, b) :: st) f vs) (h0 : f a = some 0) : b = true := by
  cases b with
  | true => rfl
  | false =>
    have := (h.opened a).1 h0
    rcases List.mem_cons.1 this with e | e
    · cases e
    · exact absurd ((List.pairwise_cons.1 h.falls).1 _ e rfl) (Nat.lt_irrefl _)
theorem WI.top_other {a : α} {b : Bool} (h : WI T r ((a, b) :: st) f vs) (h0 : f a ≠ some 0) : b = false := by
  cases b with
  | false => rfl
  | true => exact absurd ((h.opened a).2 (by simp)) h0

/-- The depth of the open one on the top: all that is in it is done. -/
theorem WI.kids_done {a : α} (h : WI T r ((a, true) :: st) f vs) : ∀ c ∈ T.kids a, T.kids c ≠ [] → f c = some (T.dep c) := fun c hc hk => by
  rcases h.above [] a st rfl c hc hk with ⟨d, hd⟩ | h'
  · rw [hd, (h.done c d hd).1]
  · simp at h'

theorem dep_pos (T : Tr α) (a : α) : 1 ≤ T.dep a := by rw [T.dep_eq]; omega

/-- The open one on the top is closed. -/
theorem WI.close {a : α} (h : WI T r ((a, true) :: st) f vs) : WI T r st (fun x => if x = a then some (T.dep a) else f x) vs where
  opened x := by
    by_cases hx : x = a
    · subst hx
      rw [if_pos rfl]
      constructor
      · intro e; have := dep_pos T x; simp at e; omega
      · intro e; exact absurd ((List.pairwise_cons.1 h.falls).1 _ e rfl) (Nat.lt_irrefl _)
    · rw [if_neg hx, h.opened x]
      simp [hx]
  falls := (List.pairwise_cons.1 h.falls).2
  above l1 x l2 e c hc hk := by
    by_cases hca : c = a
    · subst hca; exact .inl ⟨T.dep c - 1, by rw [if_pos rfl]; have := dep_pos T c; congr 1; omega⟩
    · rw [if_neg hca]
      rcases h.above ((a, true) :: l1) x l2 (by rw [e]; rfl) c hc hk with h' | h'
      · exact .inl h'
      · exact .inr (by simpa [hca] using h')
  done x d e := by
    have fin : ∀ c, (∃ d', f c = some (d' + 1)) → ∃ d', (if c = a then some (T.dep a) else f c) = some (d' + 1) := fun c ⟨d', hd'⟩ => by
      by_cases hca : c = a
      · rw [if_pos hca]; exact ⟨T.dep a - 1, by have := dep_pos T a; congr 1; omega⟩
      · rw [if_neg hca]; exact ⟨d', hd'⟩
    by_cases hx : x = a
    · subst hx
      rw [if_pos rfl] at e
      refine ⟨(Option.some.inj e).symm, fun c hc hk => fin c ⟨T.dep c - 1, ?_⟩⟩
      rw [h.kids_done c hc hk]
      have := dep_pos T c; congr 1; omega
    · rw [if_neg hx] at e
      exact ⟨(h.done x d e).1, fun c hc hk => fin c ((h.done x d e).2 c hc hk)⟩
  root := by
    rcases h.root with h' | ⟨d, hd⟩
    · rcases List.mem_cons.1 h' with e | e
      · exact .inr ⟨T.dep a - 1, by rw [if_pos e]; have := dep_pos T a; congr 1; omega⟩
      · exact .inl e
    · by_cases hr : r = a
      · exact .inr ⟨T.dep a - 1, by rw [if_pos hr]; have := dep_pos T a; congr 1; omega⟩
      · exact .inr ⟨d, by rw [if_neg hr]; exact hd⟩
  seen x hx := by
    by_cases hxa : x = a
    · exact h.seen x (by rw [hxa, (h.opened a).2 (by simp)]; simp)
    · rw [if_neg hxa] at hx; exact h.seen x hx
  sub := ⟨fun x hx => h.sub.1 x (List.mem_cons_of_mem _ hx), h.sub.2⟩

/-- One that was closed already is left. -/
theorem WI.pop {a : α} {d : Nat} (h : WI T r ((a, false) :: st) f vs) (hd : f a = some (d + 1)) : WI T r st f vs where
  opened x := by rw [h.opened x]; simp
  falls := (List.pairwise_cons.1 h.falls).2
  above l1 x l2 e c hc hk := by
    rcases h.above ((a, false) :: l1) x l2 (by rw [e]; rfl) c hc hk with h' | h'
    · exact .inl h'
    · rcases List.mem_cons.1 (by simpa using h' : c ∈ a :: l1.map (·.1)) with e' | e'
      · subst e'; exact .inl ⟨d, hd⟩
      · exact .inr e'
  done := h.done
  root := by
    rcases h.root with h' | h'
    · rcases List.mem_cons.1 h' with e | e
      · exact .inr ⟨d, by rw [show r = a from e]; exact hd⟩
      · exact .inl e
    · exact .inr h'
  seen := h.seen
  sub := ⟨fun x hx => h.sub.1 x (List.mem_cons_of_mem _ hx), h.sub.2⟩

/-- What of a new one is laid on the stack: what has others in it and was not met. -/
def pushed (T : Tr α) (f : α → Option Nat) (a : α) : List α := (T.kids a).filter fun c => decide (T.kids c ≠ []) && (f c).isNone
def singles (T : Tr α) (a : α) : List α := (T.kids a).filter fun c => decide (T.kids c = [])

/-- No open one stands in a new one. -/
theorem WI.no_open {a : α} {b : Bool} (h : WI T r ((a, b) :: st) f vs) (h0 : f a = none) : ∀ c ∈ T.kids a, f c ≠ some 0 := fun c hc e => by
  rcases List.mem_cons.1 ((h.opened c).1 e) with e' | e'
  · cases e'; have := T.fall _ _ hc; omega
  · have h1 := (List.pairwise_cons.1 h.falls).1 _ e' rfl
    have h2 := T.fall _ _ hc
    simp at h1; omega

/-- A new one is opened, and what is in it laid on the stack. -/
theorem WI.enter {a : α} (h : WI T r ((a, false) :: st) f vs) (h0 : f a = none) :
    WI T r (((pushed T f a).reverse.map fun c => (c, false)) ++ (a, true) :: st) (fun x => if x = a then some 0 else f x) (vs ++ [a] ++ singles T a) where
  opened x := by
    by_cases hx : x = a
    · subst hx; simp
    · rw [if_neg hx, h.opened x]; simp [hx]
  falls := by
    rw [List.pairwise_append]
    refine ⟨?_, ?_, ?_⟩
    · rw [List.pairwise_map]
      exact List.pairwise_of_forall fun x y e => by cases e
    · rw [List.pairwise_cons]
      exact ⟨fun y hy hb => (List.pairwise_cons.1 h.falls).1 y hy hb, (List.pairwise_cons.1 h.falls).2⟩
    · intro x hx y hy hb
      obtain ⟨c, hc, rfl⟩ := List.mem_map.1 hx
      have hck : c ∈ T.kids a := (List.mem_filter.1 (List.mem_reverse.1 hc)).1
      have h1 := T.fall _ _ hck
      rcases List.mem_cons.1 hy with e | e
      · subst e; exact h1
      · have h2 := (List.pairwise_cons.1 h.falls).1 y e hb
        exact Nat.lt_trans h1 h2
  above l1 x l2 e c hc hk := by
    have hold : ∀ c, (∃ d, f c = some (d + 1)) → ∃ d, (if c = a then some 0 else f c) = some (d + 1) := fun c ⟨d, hd⟩ => ⟨d, by rw [if_neg (fun e => by rw [e, h0] at hd; cases hd)]; exact hd⟩
    by_cases hxa : x = a
    · subst hxa
      by_cases hf : f c = none
      · right
        have hcp : c ∈ pushed T f x := List.mem_filter.2 ⟨hc, by simp [hk, hf]⟩
        have hnt : (x, true) ∉ st := fun e' => by have := (h.opened x).2 (List.mem_cons_of_mem _ e'); rw [h0] at this; cases this
        have key : l1 = (pushed T f x).reverse.map fun c => (c, false) := by
          rcases List.append_eq_append_iff.1 e with ⟨m, e1, e2⟩ | ⟨m, e1, e2⟩
          · cases m with
            | nil => simpa using e1
            | cons y m =>
              simp only [List.cons_append, List.cons.injEq] at e2
              exact absurd (by rw [e2.2]; simp : (x, true) ∈ st) hnt
          · cases m with
            | nil => simpa using e1.symm
            | cons y m =>
              simp only [List.cons_append, List.cons.injEq] at e2
              have hm : (x, true) ∈ ((pushed T f x).reverse.map fun c => (c, false)) := by rw [e1, ← e2.1]; simp
              obtain ⟨_, _, e3⟩ := List.mem_map.1 hm
              cases e3
        rw [key, List.map_map]
        exact List.mem_map.2 ⟨c, List.mem_reverse.2 hcp, rfl⟩
      · left
        cases hfc : f c with
        | none => exact absurd hfc hf
        | some n =>
          cases n with
          | zero => exact absurd hfc (h.no_open h0 c hc)
          | succ n => rw [← hfc]; exact hold c ⟨n, hfc⟩
    · -- an older open one
      have hmem : (x, true) ∈ st := by
        have : (x, true) ∈ ((pushed T f a).reverse.map fun c => (c, false)) ++ (a, true) :: st := by rw [e]; simp
        rcases List.mem_append.1 this with h' | h'
        · obtain ⟨_, _, e3⟩ := List.mem_map.1 h'; cases e3
        · rcases List.mem_cons.1 h' with e3 | e3
          · cases e3; exact absurd rfl hxa
          · exact e3
      obtain ⟨m1, m2, hm, hl1⟩ : ∃ m1 m2, st = m1 ++ (x, true) :: m2 ∧ l1 = ((pushed T f a).reverse.map fun c => (c, false)) ++ (a, true) :: m1 := by
        rcases List.append_eq_append_iff.1 e with ⟨m, e1, e2⟩ | ⟨m, e1, e2⟩
        · cases m with
          | nil => simp only [List.nil_append, List.cons.injEq, Prod.mk.injEq] at e2; exact absurd e2.1.1.symm hxa
          | cons y m =>
            simp only [List.cons_append, List.cons.injEq] at e2
            exact ⟨m, l2, e2.2, by rw [e1, ← e2.1]⟩
        · cases m with
          | nil => simp only [List.nil_append, List.cons.injEq, Prod.mk.injEq] at e2; exact absurd e2.1.1 hxa
          | cons y m =>
            simp only [List.cons_append, List.cons.injEq] at e2
            have hm : (x, true) ∈ ((pushed T f a).reverse.map fun c => (c, false)) := by rw [e1, ← e2.1]; simp
            obtain ⟨_, _, e3⟩ := List.mem_map.1 hm
            cases e3
      rcases h.above ((a, false) :: m1) x m2 (by rw [hm]; rfl) c hc hk with h' | h'
      · exact .inl (hold c h')
      · right
        rw [hl1, List.map_append, List.map_cons]
        exact List.mem_append.2 (.inr (by simpa using h'))
  done x d e := by
    have hxa : x ≠ a := fun e' => by rw [if_pos e'] at e; cases e
    rw [if_neg hxa] at e
    refine ⟨(h.done x d e).1, fun c hc hk => ?_⟩
    obtain ⟨d', hd'⟩ := (h.done x d e).2 c hc hk
    exact ⟨d', by rw [if_neg (fun e' => by rw [e', h0] at hd'; cases hd')]; exact hd'⟩
  root := by
    rcases h.root with h' | ⟨d, hd⟩
    · left
      rw [List.map_append, List.map_cons]
      exact List.mem_append.2 (.inr (by simpa using h'))
    · exact .inr ⟨d, by rw [if_neg (fun e' => by rw [e', h0] at hd; cases hd)]; exact hd⟩
  seen x hx := by
    by_cases hxa : x = a
    · subst hxa
      refine ⟨by simp, fun c hc hk => ?_⟩
      have : c ∈ singles T x := List.mem_filter.2 ⟨hc, by simp [hk]⟩
      simp [this]
    · rw [if_neg hxa] at hx
      obtain ⟨h1, h2⟩ := h.seen x hx
      exact ⟨by simp [h1], fun c hc hk => by simp [h2 c hc hk]⟩
  sub := by
    have ha : Tr.Sub T r a := h.sub.1 (a, false) (by simp)
    refine ⟨fun x hx => ?_, fun x hx => ?_⟩
    · rcases List.mem_append.1 hx with h' | h'
      · obtain ⟨c, hc, rfl⟩ := List.mem_map.1 h'
        exact .kid ha (List.mem_filter.1 (List.mem_reverse.1 hc)).1
      · rcases List.mem_cons.1 h' with e | e
        · subst e; exact ha
        · exact h.sub.1 x (List.mem_cons_of_mem _ e)
    · rcases List.mem_append.1 hx with h' | h'
      · rcases List.mem_append.1 h' with h' | h'
        · exact h.sub.2 x h'
        · simp at h'; subst h'; exact ha
      · exact .kid ha (List.mem_filter.1 h').1

/-- The end: the root's depth stands in the map; all below it was visited, and no other. -/
theorem WI.finish (h : WI T r [] f vs) : f r = some (T.dep r) ∧ ∀ x, x ∈ vs ↔ Tr.Sub T r x := by
  have hr : ∃ d, f r = some (d + 1) := by
    rcases h.root with h' | h'
    · simp at h'
    · exact h'
  obtain ⟨d, hd⟩ := hr
  refine ⟨by rw [hd, (h.done r d hd).1], fun x => ⟨h.sub.2 x, fun hx => ?_⟩⟩
  have key : ∀ x, Tr.Sub T r x → (∃ d, f x = some (d + 1)) ∨ (x ∈ vs ∧ T.kids x = []) := fun x hx => by
    induction hx with
    | root => exact .inl ⟨d, hd⟩
    | @kid a c _ hc ih =>
      rcases ih with ⟨d', hd'⟩ | ⟨_, hk⟩
      · by_cases hk : T.kids c = []
        · exact .inr ⟨(h.seen a (by rw [hd']; simp)).2 c hc hk, hk⟩
        · exact .inl ((h.done a d' hd').2 c hc hk)
      · rw [hk] at hc; cases hc
  rcases key x hx with ⟨d', hd'⟩ | ⟨hv, _⟩
  · exact (h.seen x (by rw [hd']; simp)).1
  · exact hv

theorem work_pos (T : Tr α) (a : α) : 2 ≤ T.work a := by rw [T.work_eq]; omega
theorem wLeft_pop (T : Tr α) (a : α) (b : Bool) (st : List (α × Bool)) : wLeft T st < wLeft T ((a, b) :: st) := by
  have := work_pos T a
  unfold wLeft
  cases b <;> simp <;> omega
theorem sum_filter_le (g : α → Nat) (p : α → Bool) : ∀ l : List α, ((l.filter p).map g).sum ≤ (l.map g).sum
  | [] => by simp
  | x :: l => by
    have := sum_filter_le g p l
    by_cases hp : p x = true
    · simp [hp]; omega
    · simp [hp]; omega
theorem sum_rev (g : α → Nat) (l : List α) : (l.reverse.map g).sum = (l.map g).sum := by
  induction l with
  | nil => rfl
  | cons x l ih => simp; omega
theorem wLeft_enter (T : Tr α) (f : α → Option Nat) (a : α) (st : List (α × Bool)) : wLeft T (((pushed T f a).reverse.map fun c => (c, false)) ++ (a, true) :: st) < wLeft T ((a, false) :: st) := by
  have h1 : (((pushed T f a).reverse.map fun c => (c, false)).map fun x : α × Bool => if x.2 then 1 else T.work x.1).sum = ((pushed T f a).map T.work).sum := by
    rw [List.map_map]
    exact sum_rev T.work _
  have h2 : ((pushed T f a).map T.work).sum ≤ ((T.kids a).map T.work).sum := sum_filter_le T.work _ _
  have h3 := T.work_eq a
  unfold wLeft
  rw [List.map_append, List.sum_append, h1]
  simp
  omega

/-- The greatest of the kids' depths, off the map. -/
theorem grL_dep (T : Tr α) (ad : α → Nat × Nat) (G : Nat × Nat → Option Int) (a : α) (h : ∀ c ∈ T.kids a, (T.kids c ≠ [] → G (ad c) = some (T.dep c : Int)) ∧ (T.kids c = [] → (G (ad c)).getD 0 ≤ 1)) :
    grL G ((T.kids a).map ad) + 1 = (T.dep a : Int) := by
  have key : ∀ (l : List α) (g : Nat), (∀ c ∈ l, c ∈ T.kids a) → ((l.map ad).foldl (grD G) (g : Int)) = ((l.foldl (fun g c => max g (T.dep c)) g : Nat) : Int) := by
    intro l
    induction l with
    | nil => intro g _; rfl
    | cons c l ih =>
      intro g hl
      have e : grD G (g : Int) (ad c) = ((max g (T.dep c) : Nat) : Int) := by
        unfold grD
        obtain ⟨h1, h2⟩ := h c (hl c (by simp))
        have hp := dep_pos T c
        by_cases hk : T.kids c = []
        · have h3 := h2 hk
          have h4 : T.dep c = 1 := by rw [T.dep_eq, hk]; rfl
          rw [h4]; omega
        · rw [h1 hk]
          simp only [Option.getD_some]
          omega
      rw [List.map_cons, List.foldl_cons, List.foldl_cons, e]
      exact ih _ (fun c' hc' => hl c' (List.mem_cons_of_mem _ hc'))
  have := key (T.kids a) 0 (fun c hc => hc)
  unfold grL
  rw [show ((0 : Int)) = ((0 : Nat) : Int) from rfl, this, T.dep_eq a]
  omega
end
end Go.Proofs.YtnjikipncgbjjaaGreatDoor

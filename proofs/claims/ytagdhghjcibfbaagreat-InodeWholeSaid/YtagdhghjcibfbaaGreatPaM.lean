/- Layer 7's plain mathematics: what stands between bytes '/', joined names, the order of names and of paths, clean paths, marks. -/
import Derived.Lib.SplitLaws
import Derived.Lib.Join
import Derived.Lib.LastIndexLaws
namespace Go.Proofs.YtagdhghjcibfbaaGreat
set_option linter.unusedVariables false

/-- What stands between bytes '/' (never nothing). -/
def splitP : List UInt8 → List (List UInt8)
  | [] => [[]]
  | c :: l => if c = 47 then [] :: splitP l else (c :: (splitP l).headD []) :: (splitP l).tail
def partsL (l : List UInt8) : List (List UInt8) := if l = [] then [] else splitP l
def joinP : List (List UInt8) → List UInt8
  | [] => []
  | [p] => p
  | p :: q :: r => p ++ 47 :: joinP (q :: r)

theorem splitP_ne (l : List UInt8) : splitP l ≠ [] := by
  cases l with
  | nil => simp [splitP]
  | cons c l => simp only [splitP]; split <;> simp
theorem splitP_cons (l : List UInt8) : ∃ p r, splitP l = p :: r := by
  cases h : splitP l with
  | nil => exact absurd h (splitP_ne l)
  | cons p r => exact ⟨p, r, rfl⟩
theorem joinP_two (p : List UInt8) (r : List (List UInt8)) (h : r ≠ []) : joinP (p :: r) = p ++ 47 :: joinP r := by
  cases r with
  | nil => exact absurd rfl h
  | cons q r => rfl
theorem joinP_cons_head (c : UInt8) (p : List UInt8) (r : List (List UInt8)) : joinP ((c :: p) :: r) = c :: joinP (p :: r) := by
  cases r with
  | nil => rfl
  | cons q r => rfl
theorem join_split (l : List UInt8) : joinP (splitP l) = l := by
  induction l with
  | nil => rfl
  | cons c l ih =>
    obtain ⟨p, r, h⟩ := splitP_cons l
    simp only [splitP]
    by_cases hc : c = 47
    · rw [if_pos hc, joinP_two _ _ (splitP_ne l), ih, hc]; rfl
    · rw [if_neg hc, joinP_cons_head, h]; simp only [List.headD_cons, List.tail_cons]; rw [← h, ih]
theorem join_parts (l : List UInt8) : joinP (partsL l) = l := by
  unfold partsL; split
  · next h => rw [h]; rfl
  · exact join_split l
theorem parts_inj {a b : List UInt8} (h : partsL a = partsL b) : a = b := by rw [← join_parts a, ← join_parts b, h]

/-- A name that holds no '/'. -/
def NoSl (p : List UInt8) : Prop := 47 ∉ p
theorem split_noSl (p : List UInt8) (h : NoSl p) : splitP p = [p] := by
  induction p with
  | nil => rfl
  | cons c l ih =>
    unfold NoSl at h
    simp only [List.mem_cons, not_or] at h
    simp only [splitP]
    rw [if_neg (fun e => h.1 e.symm), ih h.2]; rfl
theorem split_cat (p l : List UInt8) (h : NoSl p) : splitP (p ++ 47 :: l) = p :: splitP l := by
  induction p with
  | nil => simp [splitP]
  | cons c t ih =>
    unfold NoSl at h
    simp only [List.mem_cons, not_or] at h
    simp only [List.cons_append, splitP]
    rw [if_neg (fun e => h.1 e.symm), ih h.2]; rfl
theorem split_join (r : List (List UInt8)) (hr : r ≠ []) (h : ∀ p ∈ r, NoSl p) : splitP (joinP r) = r := by
  induction r with
  | nil => exact absurd rfl hr
  | cons p r ih =>
    cases r with
    | nil => exact split_noSl p (h p (by simp))
    | cons q r =>
      show splitP (p ++ 47 :: joinP (q :: r)) = _
      rw [split_cat _ _ (h p (by simp)), ih (by simp) (fun x hx => h x (List.mem_cons_of_mem _ hx))]
theorem split_mem (l : List UInt8) : ∀ p ∈ splitP l, NoSl p := by
  induction l with
  | nil => intro p hp; simp [splitP] at hp; subst hp; simp [NoSl]
  | cons c l ih =>
    obtain ⟨q, r, h⟩ := splitP_cons l
    intro p hp
    simp only [splitP] at hp
    by_cases hc : c = 47
    · rw [if_pos hc] at hp
      simp only [List.mem_cons] at hp
      rcases hp with rfl | hp
      · simp [NoSl]
      · exact ih p hp
    · rw [if_neg hc, h] at hp
      simp only [List.headD_cons, List.tail_cons, List.mem_cons] at hp
      rcases hp with rfl | hp
      · have := ih q (by rw [h]; simp)
        unfold NoSl at this ⊢
        simp only [List.mem_cons, not_or]
        exact ⟨fun e => hc e.symm, this⟩
      · exact ih p (by rw [h]; simp [hp])
theorem joinP_ne (r : List (List UInt8)) (h : ∀ p ∈ r, p ≠ []) (hr : r ≠ []) : joinP r ≠ [] := by
  cases r with
  | nil => exact absurd rfl hr
  | cons p r =>
    have := h p (by simp)
    cases p with
    | nil => exact absurd rfl this
    | cons c p => rw [joinP_cons_head]; simp
theorem parts_join (r : List (List UInt8)) (h : ∀ p ∈ r, NoSl p) (h' : ∀ p ∈ r, p ≠ []) : partsL (joinP r) = r := by
  by_cases hr : r = []
  · subst hr; rfl
  · unfold partsL
    rw [if_neg (joinP_ne r h' hr), split_join r hr h]
theorem parts_mem (l : List UInt8) : ∀ p ∈ partsL l, NoSl p := by
  unfold partsL; split
  · simp
  · exact split_mem l
theorem split_len (l : List UInt8) : (splitP l).length ≤ l.length + 1 := by
  induction l with
  | nil => simp [splitP]
  | cons c l ih =>
    obtain ⟨p, r, h⟩ := splitP_cons l
    simp only [splitP]
    split
    · simp; omega
    · rw [h] at ih ⊢; simp at ih ⊢; omega
theorem parts_len (l : List UInt8) : (partsL l).length ≤ l.length + 1 := by
  unfold partsL; split
  · simp
  · exact split_len l
theorem split_len_mem (l : List UInt8) : ∀ p ∈ splitP l, p.length ≤ l.length := by
  induction l with
  | nil => intro p hp; simp [splitP] at hp; subst hp; simp
  | cons c l ih =>
    obtain ⟨q, r, h⟩ := splitP_cons l
    intro p hp
    simp only [splitP] at hp
    by_cases hc : c = 47
    · rw [if_pos hc] at hp
      simp only [List.mem_cons] at hp
      rcases hp with rfl | hp
      · simp
      · have := ih p hp; simp; omega
    · rw [if_neg hc, h] at hp
      simp only [List.headD_cons, List.tail_cons, List.mem_cons] at hp
      rcases hp with rfl | hp
      · have := ih q (by rw [h]; simp); simp; omega
      · have := ih p (by rw [h]; simp [hp]); simp; omega
theorem parts_len_mem (l : List UInt8) : ∀ p ∈ partsL l, p.length ≤ l.length := by
  unfold partsL; split
  · simp
  · exact split_len_mem l

/-- What is read so far, and what is gathered of the part in which it stands. -/
theorem split_take (l : List UInt8) (done : List (List UInt8)) (part rest : List UInt8) (c : UInt8) (hc : c ≠ 47) :
    (part ++ (splitP (c :: rest)).headD []) :: (splitP (c :: rest)).tail = ((part ++ [c]) ++ (splitP rest).headD []) :: (splitP rest).tail := by
  simp only [splitP]
  rw [if_neg hc]; simp
/-- The parts of what is left, the first one behind what is gathered. -/
def onto (part rest : List UInt8) : List (List UInt8) := (part ++ (splitP rest).headD []) :: (splitP rest).tail
theorem onto_nil (l : List UInt8) : onto [] l = splitP l := by
  obtain ⟨p, r, h⟩ := splitP_cons l
  unfold onto; rw [h]; rfl
theorem onto_end (part : List UInt8) : onto part [] = [part] := by simp [onto, splitP]
theorem onto_sl (part rest : List UInt8) : onto part (47 :: rest) = part :: onto [] rest := by
  rw [onto_nil]; simp [onto, splitP]
theorem onto_on (part rest : List UInt8) (c : UInt8) (hc : c ≠ 47) : onto part (c :: rest) = onto (part ++ [c]) rest :=
  split_take rest [] part rest c hc

/-- All but the last name's path, and the last name. -/
def dirL (l : List UInt8) : List UInt8 := joinP (partsL l).dropLast
def nameL (l : List UInt8) : List UInt8 := (partsL l).getLastD []
/-- A name in a directory. -/
def inL (d n : List UInt8) : List UInt8 := if d = [] then n else if n = [] then d else d ++ 47 :: n
def underL (a b : List (List UInt8)) : Bool := decide (b.length < a.length) && decide (a.take b.length = b)

/-! Names in their order. -/
theorem less_irr (a : List UInt8) : Op.bytesLess a a = false := by
  induction a with
  | nil => rfl
  | cons c l ih => simp [Op.bytesLess, ih]
theorem less_tri (a b : List UInt8) (h1 : Op.bytesLess a b = false) (h2 : Op.bytesLess b a = false) : a = b := by
  induction a generalizing b with
  | nil => cases b with
    | nil => rfl
    | cons d m => simp [Op.bytesLess] at h1
  | cons c l ih =>
    cases b with
    | nil => simp [Op.bytesLess] at h2
    | cons d m =>
      simp only [Op.bytesLess, Bool.or_eq_false_iff, Bool.and_eq_false_iff, decide_eq_false_iff_not, beq_eq_false_iff_ne] at h1 h2
      have hcd : c = d := by
        apply UInt8.toNat_inj.1
        have a1 := h1.1; have a2 := h2.1
        rw [UInt8.lt_iff_toNat_lt] at a1 a2
        omega
      subst hcd
      rw [ih m (h1.2.resolve_left (by simp)) (h2.2.resolve_left (by simp))]
theorem less_trans (a b c : List UInt8) (h1 : Op.bytesLess a b = true) (h2 : Op.bytesLess b c = true) : Op.bytesLess a c = true := by
  induction a generalizing b c with
  | nil => cases c with
    | nil => cases b <;> simp [Op.bytesLess] at h2
    | cons e n => rfl
  | cons x l ih =>
    cases b with
    | nil => simp [Op.bytesLess] at h1
    | cons y m =>
      cases c with
      | nil => simp [Op.bytesLess] at h2
      | cons z n =>
        simp only [Op.bytesLess, Bool.or_eq_true, Bool.and_eq_true, decide_eq_true_eq, beq_iff_eq] at h1 h2 ⊢
        rcases h1 with h1 | ⟨rfl, h1⟩
        · rcases h2 with h2 | ⟨rfl, h2⟩
          · left; rw [UInt8.lt_iff_toNat_lt] at *; omega
          · left; exact h1
        · rcases h2 with h2 | ⟨rfl, h2⟩
          · left; exact h2
          · right; exact ⟨rfl, ih m n h1 h2⟩
theorem less_asym (a b : List UInt8) (h : Op.bytesLess a b = true) : Op.bytesLess b a = false := by
  cases h' : Op.bytesLess b a with
  | false => rfl
  | true => have := less_trans _ _ _ h h'; rw [less_irr] at this; exact absurd this (by simp)

/-- The order of two names. -/
def cmpN (a b : List UInt8) : Int := if Op.bytesLess a b then -1 else if Op.bytesLess b a then 1 else 0
/-- The order of two paths, by their names. -/
def cmpL : List (List UInt8) → List (List UInt8) → Int
  | [], [] => 0
  | [], _ :: _ => -1
  | _ :: _, [] => 1
  | a :: x, b :: y => if Op.bytesLess a b then -1 else if Op.bytesLess b a then 1 else cmpL x y
theorem cmpL_self (x : List (List UInt8)) : cmpL x x = 0 := by
  induction x with
  | nil => rfl
  | cons a x ih => simp [cmpL, less_irr, ih]
theorem cmpL_swap (x y : List (List UInt8)) : cmpL x y = - cmpL y x := by
  induction x generalizing y with
  | nil => cases y <;> rfl
  | cons a x ih =>
    cases y with
    | nil => rfl
    | cons b y =>
      simp only [cmpL]
      cases h1 : Op.bytesLess a b with
      | true => rw [less_asym _ _ h1]; simp
      | false => cases h2 : Op.bytesLess b a with
        | true => simp
        | false => simp; exact ih y
theorem cmpL_zero (x y : List (List UInt8)) (h : cmpL x y = 0) : x = y := by
  induction x generalizing y with
  | nil => cases y with
    | nil => rfl
    | cons b y => simp [cmpL] at h
  | cons a x ih =>
    cases y with
    | nil => simp [cmpL] at h
    | cons b y =>
      simp only [cmpL] at h
      cases h1 : Op.bytesLess a b with
      | true => rw [h1] at h; simp at h
      | false => cases h2 : Op.bytesLess b a with
        | true => rw [h1, h2] at h; simp at h
        | false =>
          rw [h1, h2] at h; simp at h
          rw [less_tri _ _ h1 h2, ih y h]
theorem cmpL_lt (x y : List (List UInt8)) : cmpL x y = -1 ∨ cmpL x y = 0 ∨ cmpL x y = 1 := by
  induction x generalizing y with
  | nil => cases y <;> simp [cmpL]
  | cons a x ih =>
    cases y with
    | nil => simp [cmpL]
    | cons b y =>
      simp only [cmpL]
      split
      · simp
      · split
        · simp
        · exact ih y
theorem cmpL_head (a : List UInt8) (x y : List (List UInt8)) : cmpL (a :: x) (a :: y) = cmpL x y := by simp [cmpL, less_irr]
theorem cmpL_trans (x y z : List (List UInt8)) (h1 : cmpL x y < 0) (h2 : cmpL y z < 0) : cmpL x z < 0 := by
  induction x generalizing y z with
  | nil => cases z with
    | nil => cases y <;> simp [cmpL] at h1 h2
    | cons c z => simp [cmpL]
  | cons a x ih =>
    cases y with
    | nil => simp [cmpL] at h1
    | cons b y =>
      cases z with
      | nil => simp [cmpL] at h2
      | cons c z =>
        simp only [cmpL] at h1 h2 ⊢
        cases e1 : Op.bytesLess a b with
        | true =>
          cases e2 : Op.bytesLess b c with
          | true => rw [less_trans _ _ _ e1 e2]; simp
          | false =>
            cases e3 : Op.bytesLess c b with
            | true => rw [e2, e3] at h2; simp at h2
            | false => rw [less_tri _ _ e2 e3] at e1; rw [e1]; simp
        | false =>
          cases e3 : Op.bytesLess b a with
          | true => rw [e1, e3] at h1; simp at h1
          | false =>
            rw [e1, e3] at h1
            obtain rfl := less_tri _ _ e1 e3
            simp at h1
            cases e2 : Op.bytesLess a c with
            | true => simp
            | false => cases e4 : Op.bytesLess c a with
              | true => rw [e2, e4] at h2; simp at h2
              | false => rw [e2, e4] at h2; simp at h2 ⊢; exact ih y z h1 h2

theorem under_split {a b : List (List UInt8)} (h : underL a b = true) : ∃ c r, a = b ++ c :: r := by
  unfold underL at h
  simp only [Bool.and_eq_true, decide_eq_true_eq] at h
  have e : a = a.take b.length ++ a.drop b.length := (List.take_append_drop _ _).symm
  rw [h.2] at e
  cases hd : a.drop b.length with
  | nil => rw [hd] at e; rw [e] at h; simp at h
  | cons c r => exact ⟨c, r, by rw [hd] at e; exact e⟩
theorem under_of (b : List (List UInt8)) (c : List UInt8) (r : List (List UInt8)) : underL (b ++ c :: r) b = true := by
  unfold underL; simp
/-- What lies under a directory stands behind it. -/
theorem under_behind {x y : List (List UInt8)} (h : underL y x = true) : cmpL x y < 0 := by
  obtain ⟨c, r, rfl⟩ := under_split h
  induction x with
  | nil => simp [cmpL]
  | cons a x ih => rw [List.cons_append, cmpL_head]; exact ih (under_of _ _ _)
/-- What lies under a directory stands ahead of all that comes behind the directory and does not lie under it. -/
theorem under_ahead {x y z : List (List UInt8)} (h : underL y x = true) (hz : underL z x = false) (hx : cmpL x z < 0) : cmpL y z < 0 := by
  obtain ⟨c, r, rfl⟩ := under_split h
  clear h
  induction x generalizing z with
  | nil =>
    cases z with
    | nil => simp [cmpL] at hx
    | cons d z => simp [underL] at hz
  | cons a x ih =>
    cases z with
    | nil => simp [cmpL] at hx
    | cons d z =>
      simp only [cmpL, List.cons_append] at hx ⊢
      cases e1 : Op.bytesLess a d with
      | true => simp
      | false => cases e2 : Op.bytesLess d a with
        | true => rw [e1, e2] at hx; simp at hx
        | false =>
          rw [e1, e2] at hx
          obtain rfl := less_tri _ _ e1 e2
          simp at hx ⊢
          refine ih ?_ hx
          unfold underL at hz ⊢
          simpa using hz

/-! Clean paths. -/
/-- What stands for nothing, for a directory itself, or for the one around it. -/
def forbB (p : List UInt8) : Bool := decide (p = []) || decide (p = [46]) || decide (p = [46, 46])
def nameB (p : List UInt8) : Bool := decide (p.length ≤ 32) && !p.contains 0 && !forbB p
def keepB (p : List UInt8) : Bool := !decide (p = []) && !decide (p = [46])
/-- The names of a text that is to be a path. -/
def namesL (l : List UInt8) : List (List UInt8) := (splitP l).filter keepB
def goodL (ns : List (List UInt8)) : Bool := ns.all nameB && decide (ns.length ≤ 8) && decide ((joinP ns).length ≤ 96)
def cleanL (l : List UInt8) : Option (List UInt8) := if l.head? = some 47 then none else if goodL (namesL l) then some (joinP (namesL l)) else none

theorem forb_ne {p : List UInt8} (h : nameB p = true) : p ≠ [] := by
  rintro rfl; simp [nameB, forbB] at h
theorem name_keep {p : List UInt8} (h : nameB p = true) : keepB p = true := by
  unfold nameB forbB at h; unfold keepB
  simp at h ⊢; exact h.2.1
theorem names_noSl (l : List UInt8) : ∀ p ∈ namesL l, NoSl p := fun p hp => split_mem l p (List.mem_filter.1 hp).1
theorem names_ne (l : List UInt8) : ∀ p ∈ namesL l, p ≠ [] := fun p hp => by
  have := (List.mem_filter.1 hp).2; unfold keepB at this; simp at this; exact this.1
theorem names_parts (l : List UInt8) : partsL (joinP (namesL l)) = namesL l := parts_join _ (names_noSl l) (names_ne l)
theorem clean_parts {l x : List UInt8} (h : cleanL l = some x) : x = joinP (namesL l) ∧ partsL x = namesL l ∧ (partsL x).all nameB = true := by
  unfold cleanL at h
  split at h
  · cases h
  · split at h
    · next hg =>
      cases h
      refine ⟨rfl, names_parts l, ?_⟩
      rw [names_parts l]
      unfold goodL at hg; simp only [Bool.and_eq_true] at hg; exact hg.1.1
    · cases h
theorem names_again (ns : List (List UInt8)) (h : ns.all nameB = true) (h2 : ∀ p ∈ ns, NoSl p) : namesL (joinP ns) = ns := by
  have hk : ∀ p ∈ ns, keepB p = true := fun p hp => name_keep (List.all_eq_true.1 h p hp)
  by_cases hn : ns = []
  · subst hn; rfl
  · unfold namesL
    rw [split_join ns hn h2, List.filter_eq_self]; exact hk
theorem head_join (ns : List (List UInt8)) (h : ns.all nameB = true) (h2 : ∀ p ∈ ns, NoSl p) : (joinP ns).head? ≠ some 47 := by
  cases ns with
  | nil => simp [joinP]
  | cons p r =>
    have h1 := forb_ne (List.all_eq_true.1 h p (by simp))
    have h3 := h2 p (by simp)
    cases p with
    | nil => exact absurd rfl h1
    | cons c p =>
      rw [joinP_cons_head]
      unfold NoSl at h3
      simp at h3 ⊢
      exact fun e => h3.1 e.symm
theorem clean_again {l x : List UInt8} (h : cleanL l = some x) : cleanL x = some x := by
  have h' := h
  unfold cleanL at h
  split at h
  · cases h
  · split at h
    · next hg =>
      cases h
      have ha : (namesL l).all nameB = true := by unfold goodL at hg; simp only [Bool.and_eq_true] at hg; exact hg.1.1
      have hn := names_again _ ha (names_noSl l)
      unfold cleanL
      rw [if_neg (head_join _ ha (names_noSl l)), hn, if_pos hg]
    · cases h

/-- What the names of a path are, put together one by one. -/
theorem fold_in (ns : List (List UInt8)) (h : ∀ p ∈ ns, p ≠ []) : ns.foldl inL [] = joinP ns := by
  have step : ∀ (r : List (List UInt8)) (s : List UInt8), s ≠ [] → (∀ p ∈ r, p ≠ []) → r.foldl inL s = joinP (s :: r) := by
    intro r
    induction r with
    | nil => intro s _ _; rfl
    | cons p r ih =>
      intro s hs hr
      have hp := hr p (by simp)
      rw [List.foldl_cons]
      have e : inL s p = s ++ 47 :: p := by unfold inL; rw [if_neg hs, if_neg hp]
      rw [e, ih _ (by simp) (fun q hq => hr q (by simp [hq]))]
      cases r with
      | nil => rfl
      | cons q r => show _ = s ++ 47 :: (p ++ 47 :: joinP (q :: r)); simp [joinP]
  cases ns with
  | nil => rfl
  | cons p r =>
    rw [List.foldl_cons]
    have e : inL [] p = p := by unfold inL; rw [if_pos rfl]
    rw [e, step r p (h p (by simp)) (fun q hq => h q (by simp [hq]))]
theorem joinP_snoc (r : List (List UInt8)) (q : List UInt8) (hr : r ≠ []) : joinP (r ++ [q]) = joinP r ++ 47 :: q := by
  induction r with
  | nil => exact absurd rfl hr
  | cons p r ih =>
    cases r with
    | nil => rfl
    | cons a r => show joinP (p :: ((a :: r) ++ [q])) = _; rw [joinP_two _ _ (by simp), ih (by simp)]; simp [joinP]
/-- A clean path's directory and last name are it. -/
theorem in_dir (ns : List (List UInt8)) (h : ∀ p ∈ ns, p ≠ []) : inL (joinP ns.dropLast) (ns.getLastD []) = joinP ns := by
  by_cases hn : ns = []
  · subst hn; rfl
  · obtain ⟨r, q, rfl⟩ : ∃ r q, ns = r ++ [q] := ⟨ns.dropLast, ns.getLast hn, (List.dropLast_concat_getLast hn).symm⟩
    have hq := h q (by simp)
    rw [List.dropLast_concat, List.getLastD_concat]
    by_cases hr : r = []
    · subst hr; rfl
    · rw [joinP_snoc r q hr]
      unfold inL
      rw [if_neg (joinP_ne r (fun p hp => h p (by simp [hp])) hr), if_neg hq]
theorem dir_parts (ns : List (List UInt8)) (h : ∀ p ∈ ns, p ≠ []) (h2 : ∀ p ∈ ns, NoSl p) : partsL (joinP ns.dropLast) = ns.dropLast :=
  parts_join _ (fun p hp => h2 p (List.dropLast_subset _ hp)) (fun p hp => h p (List.dropLast_subset _ hp))
theorem under_dir (ns : List (List UInt8)) (hn : ns ≠ []) : underL ns ns.dropLast = true := by
  obtain ⟨r, q, rfl⟩ : ∃ r q, ns = r ++ [q] := ⟨ns.dropLast, ns.getLast hn, (List.dropLast_concat_getLast hn).symm⟩
  rw [List.dropLast_concat]
  exact under_of r q []

/-! Marks. -/
def whL : List UInt8 := [46, 119, 104, 46]
def opqL : List UInt8 := [46, 119, 104, 46, 46, 119, 104, 46, 46, 111, 112, 113]
/-- What a name means, and which other name is meant: 0 none, 1 gone, 2 opaque, 3 bad stand for the program's own numbers. -/
def markL (n : List UInt8) : Nat × List UInt8 :=
  if n = opqL then (2, []) else if (whL ++ whL).isPrefixOf n = true ∨ n = whL ∨ n = whL ++ [46] ∨ n = whL ++ [46, 46] then (3, [])
  else if whL.isPrefixOf n = true then (1, n.drop 4) else (0, n)
end Go.Proofs.YtagdhghjcibfbaaGreat

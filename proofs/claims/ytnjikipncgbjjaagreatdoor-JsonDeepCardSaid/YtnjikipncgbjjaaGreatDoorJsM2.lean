/- The machine's steps: what they leave to be read, and how they go on. -/
import Derived.Test.YtnjikipncgbjjaaGreatDoorJsM
namespace Go.Proofs.YtnjikipncgbjjaaGreatDoor
open Go.Lib
set_option linter.unusedVariables false

/-- What comes of a step's end. -/
def finG (f : Nat) : Out → Option (JV × List UInt8)
  | .fail => none
  | .more l K => runG f l K
  | .val v l K => match upG v l K with
    | .fail => none
    | .more l2 K2 => runG f l2 K2
    | .val v2 l2 _ => some (v2, l2)
theorem runG_succ (f : Nat) (l : List UInt8) (K : List Fr) : runG (f + 1) l K = finG f (beginG K l) := by
  simp only [runG]
  cases beginG K l <;> rfl
theorem fin_nil (f : Nat) (v : JV) (l : List UInt8) : finG f (.val v l []) = some (v, l) := rfl

theorem take_len {c : UInt8} {l r : List UInt8} (h : takeG c l = some r) : r.length < l.length := by
  unfold takeG at h
  split at h
  · rename_i hh
    cases h
    have h1 := sk_len (l.drop 1)
    rw [List.length_drop] at h1
    cases l with
    | nil => cases hh
    | cons a t => simp at h1 ⊢; omega
  · cases h
theorem unq_pos {l t : List UInt8} {m : Nat} (h : unqG l = some (t, m)) : 0 < m ∧ l ≠ [] := by
  cases l with
  | nil => cases h
  | cons a r =>
    refine ⟨?_, by simp⟩
    simp only [unqG] at h
    split at h
    · have : ∀ (f : Nat) (l acc : List UInt8) (p : Nat) (o : List UInt8) (k : Nat), unqGo f l acc p = some (o, k) → p ≤ k := by
        intro f
        induction f with
        | zero => intro l acc p o k h; simp [unqGo] at h
        | succ f ih =>
          intro l acc p o k h
          cases l with
          | nil => simp [unqGo] at h
          | cons a t =>
            simp only [unqGo] at h
            split at h
            · cases h; omega
            · split at h
              · cases h
              · have := ih _ _ _ _ _ h; omega
      have := this _ _ _ _ _ _ h
      omega
    · cases h
theorem single_len {l r : List UInt8} {v : JV} (h : singleG l = some (v, r)) : r.length < l.length ∧ v.kind ≠ 0 := by
  have hs : ∀ {n : Nat}, 0 < n → n ≤ l.length → (sk (l.drop n)).length < l.length := fun {n} h1 h2 => by
    have := sk_len (l.drop n); rw [List.length_drop] at this; omega
  have hp : ∀ {p : List UInt8}, hasPrefix l p = true → p.length ≤ l.length := fun {p} h => (List.isPrefixOf_iff_prefix.1 (show List.isPrefixOf p l = true from h)).length_le
  unfold singleG at h
  split at h
  · rename_i hh; cases h; exact ⟨hs (by omega) (hp hh), by decide⟩
  split at h
  · rename_i hh; cases h; exact ⟨hs (by omega) (hp hh), by decide⟩
  split at h
  · rename_i hh; cases h; exact ⟨hs (by omega) (hp hh), by decide⟩
  split at h
  · split at h
    · rename_i t m hu
      cases h
      have h1 := unq_pos hu
      have h2 := (unqG_valid hu).2.2
      exact ⟨hs h1.1 h2, by show (5 : Int) ≠ 0; decide⟩
    · cases h
  split at h
  · rename_i hn
    cases h
    have hne : numL l ≠ [] := by intro e; rw [e, numG_nil] at hn; cases hn
    have h1 : (numR l).length < l.length := by
      have := trimLeftS_len l [48, 49, 50, 51, 52, 53, 54, 55, 56, 57, 43, 45, 46, 101, 69]
      rcases Nat.lt_or_ge (numR l).length l.length with h | h
      · exact h
      · exfalso; apply hne; unfold numL; rw [show l.length - (numR l).length = 0 by omega]; rfl
    exact ⟨hs (by omega) (by omega), by show (4 : Int) ≠ 0; decide⟩
  · cases h
theorem close_kind (F : Fr) : F.close.kind ≠ 0 := by
  unfold Fr.close; split
  · show (7 : Int) ≠ 0; decide
  · show (6 : Int) ≠ 0; decide

/-- The unfinished values and what they have by now are fewer than bytes were read. -/
def Bnd (N : Nat) (l : List UInt8) (K : List Fr) : Prop := K.length + l.length ≤ N ∧ ∀ F ∈ K, F.els.length + l.length ≤ N
theorem name_len {F F' : Fr} {l r : List UInt8} (h : nameG F l = some (F', r)) : r.length ≤ l.length ∧ F'.els = F.els := by
  unfold nameG at h
  split at h
  · split at h
    · cases h
    · rename_i t m hu
      cases ht : takeG 58 (sk (l.drop m)) with
      | none => rw [ht] at h; cases h
      | some r' =>
        rw [ht] at h; cases h
        have h1 := take_len ht
        have h2 := sk_len (l.drop m)
        rw [List.length_drop] at h2
        exact ⟨by omega, rfl⟩
  · cases h; exact ⟨Nat.le_refl _, rfl⟩
/-- What a step that does not fail leaves. -/
def OutOk (N : Nat) (l : List UInt8) (K : List Fr) : Out → Prop
  | .fail => True
  | .more r K' => r.length < l.length ∧ Bnd N r K'
  | .val v r K' => r.length < l.length ∧ K' = K ∧ v.kind ≠ 0
theorem more_ok {N : Nat} {l m : List UInt8} {F : Fr} {K K0 : List Fr} (hm : m.length < l.length) (hK : K.length + 1 + m.length ≤ N) (hF : F.els.length + m.length ≤ N) (hb : ∀ G ∈ K, G.els.length + m.length ≤ N) : OutOk N l K0 (moreG F K m) := by
  unfold moreG
  cases h : nameG F m with
  | none => trivial
  | some x =>
    obtain ⟨F', r⟩ := x
    obtain ⟨h1, h2⟩ := name_len h
    refine ⟨by omega, by simp only [List.length_cons]; omega, fun G hG => ?_⟩
    rcases List.mem_cons.1 hG with rfl | hG
    · rw [h2]; omega
    · have := hb G hG; omega
theorem begin_ok {N : Nat} {l : List UInt8} {K : List Fr} (hb : Bnd N l K) : OutOk N l K (beginG K l) := by
  have hop : ∀ (o : Bool) (m : List UInt8), m.length < l.length → OutOk N l K (openG o K m) := fun o m hm => by
    unfold openG
    cases h : takeG (Fr.new o).mark m with
    | some r => exact ⟨Nat.lt_trans (take_len h) hm, rfl, close_kind _⟩
    | none => exact more_ok hm (by have := hb.1; omega) (by show 0 + _ ≤ _; have := hb.1; omega) (fun G hG => by have := hb.2 G hG; omega)
  unfold beginG
  cases h1 : takeG 91 l with
  | some r => exact hop false r (take_len h1)
  | none =>
    cases h2 : takeG 123 l with
    | some r => exact hop true r (take_len h2)
    | none =>
      cases h3 : singleG l with
      | none => trivial
      | some x => obtain ⟨v, r⟩ := x; obtain ⟨a, b⟩ := single_len h3; exact ⟨a, rfl, b⟩
theorem put_ok {N : Nat} {l : List UInt8} {v : JV} {F : Fr} {K : List Fr} (hb : Bnd N l (F :: K)) : OutOk N l K (putG v F K l) := by
  have h1 := hb.1
  have h2 := hb.2 F (by simp)
  simp only [List.length_cons] at h1
  unfold putG
  cases h : takeG F.mark l with
  | some r => exact ⟨take_len h, rfl, close_kind _⟩
  | none =>
    cases h4 : takeG 44 l with
    | none => trivial
    | some r =>
      have := take_len h4
      exact more_ok this (by omega) (by unfold Fr.add; simp; omega) (fun G hG => by have := hb.2 G (by simp [hG]); omega)
theorem fin_put (f N : Nat) (v : JV) (F : Fr) (K : List Fr) (l : List UInt8) (hb : Bnd N l (F :: K)) : finG f (.val v l (F :: K)) = finG f (putG v F K l) := by
  have h := put_ok (v := v) hb
  simp only [finG, upG]
  cases hp : putG v F K l with
  | fail => rfl
  | more l' K' => rfl
  | val v' l' K' =>
    rw [hp] at h
    obtain ⟨_, rfl, _⟩ := h
    rfl
end Go.Proofs.YtnjikipncgbjjaaGreatDoor

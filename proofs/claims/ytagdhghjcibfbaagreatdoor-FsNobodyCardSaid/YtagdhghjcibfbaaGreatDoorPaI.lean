/- Layer 7: what the library's Split and LastIndex tell of paths. -/
import Derived.Test.YtagdhghjcibfbaaGreatDoorPaH
import Derived.Test.YtagdhghjcibfbaaGreatDoorPaShelf
namespace Go.Proofs.YtagdhghjcibfbaaGreatDoor
open Go.RowKit
set_option linter.unusedVariables false
set_option maxRecDepth 100000

theorem index_one_cons (c d : UInt8) (l : List UInt8) : Lib.index (d :: l) [c] = if d = c then 0 else if Lib.index l [c] = -1 then -1 else Lib.index l [c] + 1 := by
  rw [Lib.index]
  by_cases h : d = c
  · subst h; rw [if_pos rfl, if_pos (by simp [List.isPrefixOf])]
  · rw [if_neg h, if_neg (by simp [List.isPrefixOf]; exact fun e => h e.symm)]
    simp
theorem splitK_sep (l : List UInt8) : Lib.splitK [47] 0 (Lib.count l [47]) l = splitP l := by
  induction l with
  | nil => rfl
  | cons c l ih =>
    by_cases hc : c = 47
    · subst hc
      rw [Lib.count_cons_eq, Nat.add_comm]
      simp only [Lib.splitK, index_one_cons, if_true, splitP]
      rw [if_neg (by decide)]
      simp [ih]
    · rw [Lib.count_cons_ne c 47 l hc]
      obtain ⟨p, r, hp⟩ := splitP_cons l
      have hs : splitP (c :: l) = (c :: p) :: r := by simp only [splitP]; rw [if_neg hc, hp]; rfl
      rw [hs]
      rw [hp] at ih
      by_cases hm : Lib.index l [47] = -1
      · have h0 := Lib.count_miss hm
        rw [h0] at ih ⊢
        simp only [Lib.splitK] at ih ⊢
        injection ih with e1 e2
        rw [e1, e2]
      · obtain ⟨j, hj⟩ : ∃ j : Nat, Lib.index l [47] = j := ⟨(Lib.index l [47]).toNat, by have := Lib.index_ge l [47]; omega⟩
        have hcount := Lib.count_hit (by simp) hj
        obtain ⟨k, hk⟩ : ∃ k, Lib.count l [47] = k + 1 := ⟨_, by rw [hcount, Nat.add_comm]⟩
        rw [hk] at ih ⊢
        have hi : Lib.index (c :: l) [47] = ((j + 1 : Nat) : Int) := by rw [index_one_cons, if_neg hc, if_neg hm, hj]; first | done | rfl
        simp only [Lib.splitK] at ih ⊢
        rw [if_neg (by rw [hj]; simp), hj] at ih
        rw [if_neg (by rw [hi]; simp; omega), hi]
        simp only [Int.toNat_natCast, Nat.add_zero, List.length_cons, List.length_nil] at ih ⊢
        injection ih with e1 e2
        rw [← e1, ← e2]
        rfl
theorem countB_list (s sep : ByteArray) : Lib.countB s sep = Lib.count s.data.toList sep.data.toList := rfl
theorem splitB_parts (l : List UInt8) : (Lib.splitB ⟨#[47]⟩ 0 (Lib.countB (bs l) ⟨#[47]⟩) (bs l)) = (splitP l).map bs := by
  have h := Lib.splitB_data ⟨#[47]⟩ 0 (Lib.countB (bs l) ⟨#[47]⟩) (bs l)
  rw [countB_list] at h
  have e : Lib.splitK [47] 0 (Lib.count l [47]) l = splitP l := splitK_sep l
  change _ = Lib.splitK [47] 0 (Lib.count l [47]) l at h
  rw [e] at h
  rw [← h, List.map_map]
  have : (bs ∘ fun x : ByteArray => x.data.toList) = id := by funext x; exact of_bs x
  rw [this]; simp [countB_list]
theorem count_len (l : List UInt8) : Lib.countB (bs l) ⟨#[47]⟩ + 1 = (splitP l).length := by
  have := Lib.splitB_all ⟨#[47]⟩ (by decide) 0 _ (bs l) rfl
  rw [← this, splitB_parts]; simp

/-- All but the last name, by the last '/'. -/
theorem split_app (d n : List UInt8) (h : NoSl n) : splitP (d ++ 47 :: n) = splitP d ++ [n] := by
  induction d with
  | nil => simp [splitP, split_noSl n h]
  | cons c d ih =>
    obtain ⟨p, r, hp⟩ := splitP_cons d
    simp only [List.cons_append, splitP]
    rw [ih, hp]
    split <;> simp
theorem dir_app (d n : List UInt8) (h : NoSl n) : dirL (d ++ 47 :: n) = d ∧ nameL (d ++ 47 :: n) = n := by
  unfold dirL nameL partsL
  rw [if_neg (by simp), split_app d n h, List.dropLast_concat, join_split, List.getLastD_concat]
  exact ⟨rfl, rfl⟩
theorem dir_no (n : List UInt8) (h : NoSl n) : dirL n = [] ∧ nameL n = n := by
  unfold dirL nameL partsL
  split
  · next e => subst e; exact ⟨rfl, rfl⟩
  · rw [split_noSl n h]; exact ⟨rfl, rfl⟩
/-- What LastIndex finds. -/
theorem last_cases (l : List UInt8) : (Lib.lastIndexByte (bs l) 47 = -1 ∧ NoSl l) ∨ ∃ i : Nat, i < l.length ∧ Lib.lastIndexByte (bs l) 47 = i ∧ l = l.take i ++ 47 :: l.drop (i + 1) ∧ NoSl (l.drop (i + 1)) := by
  have hg : ∀ j (h : j < l.length), (((bs l).data[j]!).toNat : Int) = (l[j].toNat : Int) := fun j h => by
    have : (bs l).data[j]! = l[j] := by
      rw [getElem!_pos (bs l).data j (by show j < l.toArray.size; simpa using h)]; simp [bs]
    rw [this]
  rcases Lib.lastIndexByte_spec (bs l) 47 with ⟨h1, h2⟩ | ⟨i, h1, h2, h3, h4⟩
  · left
    refine ⟨h1, fun hm => ?_⟩
    obtain ⟨j, hj, e⟩ := List.getElem_of_mem hm
    have := h2 j (by rw [bs_size]; exact hj)
    rw [hg j hj, e] at this
    exact this rfl
  · right
    rw [bs_size] at h1
    have hi : l[i] = 47 := by
      rw [hg i h1] at h3
      apply UInt8.toNat_inj.1; show _ = 47; omega
    refine ⟨i, h1, h2, ?_, fun hm => ?_⟩
    · conv => lhs; rw [← List.take_append_drop i l, List.drop_eq_getElem_cons h1, hi]
    · obtain ⟨j, hj, e⟩ := List.getElem_of_mem hm
      rw [List.length_drop] at hj
      have hj2 : i + 1 + j < l.length := by omega
      have := h4 (i + 1 + j) (by omega) (by rw [bs_size]; exact hj2)
      rw [hg _ hj2] at this
      rw [List.getElem_drop] at e
      rw [e] at this
      exact this rfl
end Go.Proofs.YtagdhghjcibfbaaGreatDoor

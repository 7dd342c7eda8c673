/- Contracts of the reference's four, long and one: what an escape denotes. -/
import Derived.Test.YtghcjiblmkknaaaDoorQuoS
namespace Go.Proofs.YtghcjiblmkknaaaDoor
open Go.RowKit
set_option linter.unusedVariables false

def partG (l : List UInt8) : Nat → Option Nat
  | 0 => some 0
  | i + 1 => (partG l i).bind fun m => (hexB (l.getD i 0).toNat).map fun d => 16 * m + d
theorem part_four (l : List UInt8) (h : 4 ≤ l.length) : partG l 4 = fourG l := by
  match l, h with
  | a :: b :: c :: d :: t, _ =>
    simp only [partG, fourG, List.getD_cons_zero, List.getD_cons_succ, Option.bind_some]
    cases hexB a.toNat <;> cases hexB b.toNat <;> cases hexB c.toNat <;> cases hexB d.toNat <;> simp
    omega
theorem part_none (l : List UInt8) (i : Nat) (h : partG l i = none) : ∀ j, i ≤ j → partG l j = none
  | 0, hj => by have : i = 0 := by omega
                subst this; exact h
  | j + 1, hj => by
    by_cases e : i = j + 1
    · subst e; exact h
    · have := part_none l i h j (by omega)
      simp only [partG, this, Option.bind_none]
theorem part_lt (l : List UInt8) : ∀ i m, partG l i = some m → m < 16 ^ i
  | 0, m, h => by simp [partG] at h; subst h; simp
  | i + 1, m, h => by
    simp only [partG] at h
    cases hp : partG l i with
    | none => rw [hp] at h; cases h
    | some q =>
      rw [hp] at h
      simp only [Option.bind_some] at h
      cases hx : hexB (l.getD i 0).toNat with
      | none => rw [hx] at h; cases h
      | some d =>
        rw [hx] at h
        simp at h
        have := part_lt l i q hp
        have := (hexB_lt hx).1
        rw [Nat.pow_succ]; omega

def fourZ : Option Nat → Int
  | some n => (n : Int)
  | none => -1

theorem refFour_any (s : ByteArray) (w : World) (hs : s.size ≤ 1099511627776) :
    Calls Tryd.prog 46 #[.string s] w fun e w' => e = .returned (.int .i64 (fourZ (fourG s.data.toList))) ∧ w' = w := by
  have hl : s.data.toList.length = s.size := by simp
  obtain ⟨O, hO⟩ : ∃ O, O = fourZ (fourG s.data.toList) := ⟨_, rfl⟩
  rw [← hO]
  have HO := Lib.hid hO
  clear hO
  by_cases h4 : s.size < 4
  · have HE := Lib.hid (show O = -1 by
      rw [HO.out]
      cases hf : fourG s.data.toList with
      | none => rfl
      | some n => have := (fourG_facts hf).2.1; omega)
    have h4' : (s.size : Int) < 4 := by omega
    clear hl
    go_enter Tryd.func46, Tryd.ntmps46
    go_wp2
    go_ret
    exact ⟨by rw [HE.out]; rfl, rfl⟩
  · have h4' : ¬ (s.size : Int) < 4 := by omega
    have HF := Lib.hid (part_four s.data.toList (by omega))
    have hsz4 : 4 ≤ s.size := by omega
    clear hl h4
    go_enter Tryd.func46, Tryd.ntmps46
    go_wp2
    go_loop [3, 4] (fun nn ii => ∃ i m : Nat, i ≤ 4 ∧ ii = .int .i64 (i : Int) ∧ nn = .int .i64 (m : Int) ∧ Hid (partG s.data.toList i = some m)) (fun _ ii => 4 - (intOf ii).toNat)
    case atStart => exact ⟨0, 0, by omega, rfl, rfl, rfl⟩
    case round =>
      obtain ⟨i, m, hi, rfl, rfl, hpart⟩ := hrel
      by_cases hlt : i < 4
      · have hip : i < s.size := by omega
        obtain ⟨y, hy⟩ : ∃ y, s[i]'hip = y := ⟨_, rfl⟩
        have hyg : s.data.toList.getD i 0 = y := by
          have := Lib.data_getElem? s i hip
          rw [hy] at this
          simp only [List.getD, this, Option.getD_some]
        have hpl := part_lt _ _ _ hpart.out
        have h16 : 16 ^ i ≤ 16 ^ 3 := Nat.pow_le_pow_right (by omega) (by omega)
        have hm : m < 4096 := by have : (16 : Nat) ^ 3 = 4096 := rfl; omega
        have hnext : partG s.data.toList (i + 1) = (hexB y.toNat).map fun d => 16 * m + d := by
          simp only [partG, hpart.out, Option.bind_some, hyg]
        have hii : (i : Int) < (s.size : Int) := by omega
        have hii0 : (0 : Int) ≤ (i : Int) := by omega
        have hy1 := UInt8.toNat_lt y
        obtain ⟨z, hz⟩ : ∃ z : Int, z = (y.toNat : Int) := ⟨_, rfl⟩
        have hz0 : 0 ≤ z := by omega
        have hz1 : z < 256 := by omega
        have hidx : ∀ h : i < s.size, ((s[i]'h).toNat : Int) = z := fun h => by rw [hz, hy]
        cases hx : hexB y.toNat with
        | none =>
          have HE := Lib.hid (show O = -1 by
            rw [HO.out, ← HF.out, part_none _ (i + 1) (by rw [hnext, hx]; rfl) 4 (by omega)]; rfl)
          have key : z < 48 ∨ (57 < z ∧ z < 65) ∨ (70 < z ∧ z < 97) ∨ 102 < z := by
            unfold hexB at hx
            split at hx
            · cases hx
            split at hx
            · cases hx
            split at hx
            · cases hx
            omega
          clear hx hnext hpart hpl h16 hyg hz hy
          rcases key with k1 | ⟨k1, k2⟩ | ⟨k1, k2⟩ | k1
          all_goals
            go_wp2
            go_ret
            exact ⟨by rw [HE.out]; rfl, rfl⟩
        | some d =>
          have HP := Lib.hid (show partG s.data.toList (i + 1) = some (16 * m + d) by rw [hnext, hx]; rfl)
          have hd := (hexB_lt hx).1
          have key : (48 ≤ z ∧ z ≤ 57 ∧ (d : Int) = z - 48) ∨ (97 ≤ z ∧ z ≤ 102 ∧ (d : Int) = z - 97 + 10) ∨ (65 ≤ z ∧ z ≤ 70 ∧ (d : Int) = z - 65 + 10) := by
            unfold hexB at hx
            split at hx
            · cases hx; omega
            split at hx
            · cases hx; omega
            split at hx
            · cases hx; omega
            · cases hx
          clear hx hnext hpart hpl h16 hyg hz hy
          rcases key with ⟨k1, k2, k3⟩ | ⟨k1, k2, k3⟩ | ⟨k1, k2, k3⟩
          all_goals
            have HD := Lib.hid k3
            clear k3
            go_wp2
            go_round
            case rel => exact ⟨i + 1, 16 * m + d, by omega, by go_num, by have := HD.out; first | go_num | (congr 1; omega), HP.out⟩
            case measure => simp [intOf]; omega
      · have hi4 : i = 4 := by omega
        have HE := Lib.hid (show O = (m : Int) by rw [HO.out, ← HF.out, ← hi4, hpart.out]; rfl)
        clear hpart
        go_wp2
        go_ret
        exact ⟨by rw [HE.out]; rfl, rfl⟩
end Go.Proofs.YtghcjiblmkknaaaDoor

/- Contracts of the reference's length, isLetter, Bytes, Letter and Valid. -/
import Derived.Test.YtghcjiblmkknaaaDoorQuoM
import Derived.Test.YtghcjiblmkknaaaDoorHexP
namespace Go.Proofs.YtghcjiblmkknaaaDoor
open Go.RowKit
set_option linter.unusedVariables false

def refLen (b : Nat) : Nat := if b < 128 then 1 else if 192 ≤ b ∧ b < 224 then 2 else if 224 ≤ b ∧ b < 240 then 3 else if 240 ≤ b ∧ b < 248 then 4 else 0

theorem refLen_any (b : Nat) (hb : b < 256) (w : World) :
    Calls Tryd.prog 31 #[.int .u8 (b : Int)] w fun e w' => e = .returned (.int .i64 (refLen b : Int)) ∧ w' = w := by
  have key : ∀ (z r : Int), (0 ≤ z ∧ z < 128 ∧ r = 1) ∨ (128 ≤ z ∧ z < 192 ∧ r = 0) ∨ (192 ≤ z ∧ z < 224 ∧ r = 2) ∨ (224 ≤ z ∧ z < 240 ∧ r = 3) ∨ (240 ≤ z ∧ z < 248 ∧ r = 4) ∨ (248 ≤ z ∧ z < 256 ∧ r = 0) →
      Calls Tryd.prog 31 #[.int .u8 z] w fun e w' => e = .returned (.int .i64 r) ∧ w' = w := by
    intro z r h
    rcases h with ⟨h1, h2, rfl⟩ | ⟨h1, h2, rfl⟩ | ⟨h1, h2, rfl⟩ | ⟨h1, h2, rfl⟩ | ⟨h1, h2, rfl⟩ | ⟨h1, h2, rfl⟩
    all_goals
      go_enter Tryd.func31, Tryd.ntmps31
      go_wp2
      go_ret
      exact ⟨rfl, rfl⟩
  apply key
  unfold refLen
  repeat' split
  all_goals omega

theorem isLetter_any (z : Int) (w : World) :
    Calls Tryd.prog 32 #[.int .i64 z] w fun e w' => e = .returned (.bool (decide (0 ≤ z ∧ z ≤ 1114111 ∧ (z < 55296 ∨ 57343 < z)))) ∧ w' = w := by
  have key : ∀ r : Bool, (z < 0 ∧ r = false) ∨ (0 ≤ z ∧ z < 55296 ∧ z ≤ 1114111 ∧ r = true) ∨ (0 ≤ z ∧ 55296 ≤ z ∧ z ≤ 57343 ∧ z ≤ 1114111 ∧ r = false) ∨ (0 ≤ z ∧ 55296 ≤ z ∧ 57343 < z ∧ z ≤ 1114111 ∧ r = true) ∨ (0 ≤ z ∧ 1114111 < z ∧ r = false) →
      Calls Tryd.prog 32 #[.int .i64 z] w fun e w' => e = .returned (.bool r) ∧ w' = w := by
    intro r h
    rcases h with ⟨h1, rfl⟩ | ⟨h1, h2, h3, rfl⟩ | ⟨h1, h2, h3, h4, rfl⟩ | ⟨h1, h2, h3, h4, rfl⟩ | ⟨h1, h2, rfl⟩
    all_goals
      go_enter Tryd.func32, Tryd.ntmps32
      go_wp2
      go_ret
      refine ⟨?_, rfl⟩
      first | rfl | (show Ending.returned (.bool (decide (z < 55296) || decide (57343 < z))) = _; congr 2; simp; omega)
  apply key
  by_cases h : 0 ≤ z ∧ z ≤ 1114111 ∧ (z < 55296 ∨ 57343 < z)
  · rw [decide_eq_true h]; simp only [Bool.true_eq_false, and_false, and_true, false_or]; omega
  · rw [decide_eq_false h]; simp only [Bool.false_eq_true, and_false, and_true, false_or]; omega

/-- The bytes of a new slice, as a string. -/
theorem conv_list {w : World} {b : Nat} (l : List UInt8) (hc : ∀ i (h : i < l.length), w.cell? ⟨b, i, none⟩ = some (.int .u8 (l[i].toNat : Int))) :
    (convert 32 9 (.slice (some ⟨b, 0, none⟩) l.length l.length)).run Tryd.prog w = .ok (.string ⟨l.toArray⟩) w := by
  have := run_convert_bytes_arg (P := Tryd.prog) w 32 5 Tryd.underlying32 Tryd.underlying5 b 0 l.length l.length (l.map fun b => (b.toNat : Int)) (by simp)
    (fun i hi => by
      rw [Nat.zero_add, hc i hi]
      simp [List.getElem?_eq_getElem hi]) 9 Tryd.underlying9
  rw [Lib.Lz.strOfNums_map] at this
  exact this
theorem cells_new (w : World) (cs : Array Value) (t : TypeId) (i : Nat) (v : Value) (h : cs[i]? = some v) : (w.alloc (.cells cs t)).cell? ⟨w.heap.size, i, none⟩ = some v := by
  rw [World.cell?_alloc_new]; exact h
theorem conv1 (w : World) (a : UInt8) (x : Int) (hx : x = (a.toNat : Int)) :
    (convert 32 9 (.slice (some ⟨w.heap.size, 0, none⟩) 1 1)).run Tryd.prog (w.alloc (.cells #[.int .u8 x] 5)) = .ok (.string ⟨#[a]⟩) (w.alloc (.cells #[.int .u8 x] 5)) := by
  subst hx
  exact conv_list [a] (fun i h => by
    match i, h with
    | 0, _ => exact cells_new _ _ _ _ _ rfl)
theorem conv2 (w : World) (a b : UInt8) (x y : Int) (hx : x = (a.toNat : Int)) (hy : y = (b.toNat : Int)) :
    (convert 32 9 (.slice (some ⟨w.heap.size, 0, none⟩) 2 2)).run Tryd.prog (w.alloc (.cells #[.int .u8 x, .int .u8 y] 5)) = .ok (.string ⟨#[a, b]⟩) (w.alloc (.cells #[.int .u8 x, .int .u8 y] 5)) := by
  subst hx hy
  exact conv_list [a, b] (fun i h => by
    match i, h with
    | 0, _ => exact cells_new _ _ _ _ _ rfl
    | 1, _ => exact cells_new _ _ _ _ _ rfl)
theorem conv3 (w : World) (a b c : UInt8) (x y z : Int) (hx : x = (a.toNat : Int)) (hy : y = (b.toNat : Int)) (hz : z = (c.toNat : Int)) :
    (convert 32 9 (.slice (some ⟨w.heap.size, 0, none⟩) 3 3)).run Tryd.prog (w.alloc (.cells #[.int .u8 x, .int .u8 y, .int .u8 z] 5)) = .ok (.string ⟨#[a, b, c]⟩) (w.alloc (.cells #[.int .u8 x, .int .u8 y, .int .u8 z] 5)) := by
  subst hx hy hz
  exact conv_list [a, b, c] (fun i h => by
    match i, h with
    | 0, _ => exact cells_new _ _ _ _ _ rfl
    | 1, _ => exact cells_new _ _ _ _ _ rfl
    | 2, _ => exact cells_new _ _ _ _ _ rfl)
theorem conv4 (w : World) (a b c d : UInt8) (x y z u : Int) (hx : x = (a.toNat : Int)) (hy : y = (b.toNat : Int)) (hz : z = (c.toNat : Int)) (hu : u = (d.toNat : Int)) :
    (convert 32 9 (.slice (some ⟨w.heap.size, 0, none⟩) 4 4)).run Tryd.prog (w.alloc (.cells #[.int .u8 x, .int .u8 y, .int .u8 z, .int .u8 u] 5)) = .ok (.string ⟨#[a, b, c, d]⟩) (w.alloc (.cells #[.int .u8 x, .int .u8 y, .int .u8 z, .int .u8 u] 5)) := by
  subst hx hy hz hu
  exact conv_list [a, b, c, d] (fun i h => by
    match i, h with
    | 0, _ => exact cells_new _ _ _ _ _ rfl
    | 1, _ => exact cells_new _ _ _ _ _ rfl
    | 2, _ => exact cells_new _ _ _ _ _ rfl
    | 3, _ => exact cells_new _ _ _ _ _ rfl)

theorem refBytes_any (n : Nat) (hn : isLet n) (w : World) :
    Calls Tryd.prog 26 #[.int .i64 (n : Int)] w fun e w' => e = .returned (.string ⟨(enc n).toArray⟩) ∧ Below w.heap.size w w' := by
  have hi := hn
  unfold isLet at hi
  have h0 : (0 : Int) ≤ (n : Int) := by omega
  by_cases h1 : n < 128
  · rw [enc_one h1]
    have hcv := conv1 w (UInt8.ofNat n) (n : Int) (by rw [UInt8.toNat_ofNat']; omega)
    have k1 : (n : Int) < 128 := by omega
    clear hi hn h1
    go_enter Tryd.func26, Tryd.ntmps26
    go_wp2
    go_ret
    exact ⟨rfl, (Below.refl _ _).alloc (Nat.le_refl _) _⟩
  by_cases h2 : n < 2048
  · obtain ⟨a, b, e, ea, eb⟩ := enc_two (by omega) h2
    rw [e]
    have hcv := conv2 w a b (192 + (n : Int) / 64) (128 + (n : Int) % 64) (by omega) (by omega)
    have k1 : ¬ (n : Int) < 128 := by omega
    have k2 : (n : Int) < 2048 := by omega
    clear hi hn h1 h2 e ea eb
    go_enter Tryd.func26, Tryd.ntmps26
    go_wp2
    go_ret
    exact ⟨rfl, (Below.refl _ _).alloc (Nat.le_refl _) _⟩
  by_cases h3 : n < 65536
  · obtain ⟨a, b, c, e, ea, eb, ec⟩ := enc_three (by omega) h3 hn
    rw [e]
    have hcv := conv3 w a b c (224 + (n : Int) / 4096) (128 + (n : Int) / 64 % 64) (128 + (n : Int) % 64) (by omega) (by omega) (by omega)
    have k1 : ¬ (n : Int) < 128 := by omega
    have k2 : ¬ (n : Int) < 2048 := by omega
    have k3 : (n : Int) < 65536 := by omega
    clear hi hn h1 h2 h3 e ea eb ec
    go_enter Tryd.func26, Tryd.ntmps26
    go_wp2
    go_ret
    exact ⟨rfl, (Below.refl _ _).alloc (Nat.le_refl _) _⟩
  · obtain ⟨a, b, c, d, e, ea, eb, ec, ed⟩ := enc_four (by omega) hn
    rw [e]
    have hcv := conv4 w a b c d (240 + (n : Int) / 262144) (128 + (n : Int) / 4096 % 64) (128 + (n : Int) / 64 % 64) (128 + (n : Int) % 64) (by omega) (by omega) (by omega) (by omega)
    have k1 : ¬ (n : Int) < 128 := by omega
    have k2 : ¬ (n : Int) < 2048 := by omega
    have k3 : ¬ (n : Int) < 65536 := by omega
    have k4 : (n : Int) ≤ 1114111 := by omega
    clear hi hn h1 h2 h3 e ea eb ec ed
    go_enter Tryd.func26, Tryd.ntmps26
    go_wp2
    go_ret
    exact ⟨rfl, (Below.refl _ _).alloc (Nat.le_refl _) _⟩
end Go.Proofs.YtghcjiblmkknaaaDoor

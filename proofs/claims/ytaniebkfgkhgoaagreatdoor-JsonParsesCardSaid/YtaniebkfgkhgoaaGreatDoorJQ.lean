/- Contracts of the reference's length, isLetter, Bytes, Letter and Valid. Contracts of the reference's Letter and Valid. Contracts of the reference's Valid, short and hexs. Contracts of the reference's four, long and one: what an escape denotes. Contracts of the reference's long and one: the letter that an escape denotes, or that begins a text between quotes. A contract of the reference's Quote. Contracts of the reference's one and Unquote. A contract of the reference's Unquote. -/
import Derived.Test.YtaniebkfgkhgoaaGreatDoorJ0
import Derived.Test.YtaniebkfgkhgoaaGreatDoorJ1
import Derived.Test.YtaniebkfgkhgoaaGreatDoorJ2
import Derived.Lib.IndexBytes
import Derived.Lib.Walk
import Derived.Lib.AppendStr
namespace Go.Proofs.YtaniebkfgkhgoaaGreatDoor
open Go.RowKit
set_option linter.unusedVariables false
set_option maxRecDepth 100000

def refLen (b : Nat) : Nat := if b < 128 then 1 else if 192 ≤ b ∧ b < 224 then 2 else if 224 ≤ b ∧ b < 240 then 3 else if 240 ≤ b ∧ b < 248 then 4 else 0

theorem refLen_any (b : Nat) (hb : b < 256) (w : World) :
    Calls Tryz.prog 104 #[.int .u8 (b : Int)] w fun e w' => e = .returned (.int .i64 (refLen b : Int)) ∧ w' = w := by
  have key : ∀ (z r : Int), (0 ≤ z ∧ z < 128 ∧ r = 1) ∨ (128 ≤ z ∧ z < 192 ∧ r = 0) ∨ (192 ≤ z ∧ z < 224 ∧ r = 2) ∨ (224 ≤ z ∧ z < 240 ∧ r = 3) ∨ (240 ≤ z ∧ z < 248 ∧ r = 4) ∨ (248 ≤ z ∧ z < 256 ∧ r = 0) →
      Calls Tryz.prog 104 #[.int .u8 z] w fun e w' => e = .returned (.int .i64 r) ∧ w' = w := by
    intro z r h
    rcases h with ⟨h1, h2, rfl⟩ | ⟨h1, h2, rfl⟩ | ⟨h1, h2, rfl⟩ | ⟨h1, h2, rfl⟩ | ⟨h1, h2, rfl⟩ | ⟨h1, h2, rfl⟩
    all_goals
      go_enter Tryz.func104, Tryz.ntmps104
      go_wp2
      go_ret
      exact ⟨rfl, rfl⟩
  apply key
  unfold refLen
  repeat' split
  all_goals omega

theorem isLetter_any (z : Int) (w : World) :
    Calls Tryz.prog 105 #[.int .i64 z] w fun e w' => e = .returned (.bool (decide (0 ≤ z ∧ z ≤ 1114111 ∧ (z < 55296 ∨ 57343 < z)))) ∧ w' = w := by
  have key : ∀ r : Bool, (z < 0 ∧ r = false) ∨ (0 ≤ z ∧ z < 55296 ∧ z ≤ 1114111 ∧ r = true) ∨ (0 ≤ z ∧ 55296 ≤ z ∧ z ≤ 57343 ∧ z ≤ 1114111 ∧ r = false) ∨ (0 ≤ z ∧ 55296 ≤ z ∧ 57343 < z ∧ z ≤ 1114111 ∧ r = true) ∨ (0 ≤ z ∧ 1114111 < z ∧ r = false) →
      Calls Tryz.prog 105 #[.int .i64 z] w fun e w' => e = .returned (.bool r) ∧ w' = w := by
    intro r h
    rcases h with ⟨h1, rfl⟩ | ⟨h1, h2, h3, rfl⟩ | ⟨h1, h2, h3, h4, rfl⟩ | ⟨h1, h2, h3, h4, rfl⟩ | ⟨h1, h2, rfl⟩
    all_goals
      go_enter Tryz.func105, Tryz.ntmps105
      go_wp2
      go_ret
      refine ⟨?_, rfl⟩
      first | rfl | (show Ending.returned (.bool (decide (z < 55296) || decide (57343 < z))) = _; congr 2; simp; omega)
  apply key
  by_cases h : 0 ≤ z ∧ z ≤ 1114111 ∧ (z < 55296 ∨ 57343 < z)
  · rw [decide_eq_true h]; simp only [Bool.true_eq_false, and_false, and_true, false_or]; omega
  · rw [decide_eq_false h]; simp only [Bool.false_eq_true, and_false, and_true, false_or]; omega

/-- The bytes of a new slice, as a string. -/
theorem conv_list {w : World} {b : Nat} (l : List UInt8) (hc : ∀ i (h : i < l.length), w.cell? ⟨b, i, none⟩ = some (.int .u8 (l[i].toNat : Int))) :
    (convert 54 9 (.slice (some ⟨b, 0, none⟩) l.length l.length)).run Tryz.prog w = .ok (.string ⟨l.toArray⟩) w := by
  have := run_convert_bytes_arg (P := Tryz.prog) w 54 5 Tryz.underlying54 Tryz.underlying5 b 0 l.length l.length (l.map fun b => (b.toNat : Int)) (by simp)
    (fun i hi => by
      rw [Nat.zero_add, hc i hi]
      simp [List.getElem?_eq_getElem hi]) 9 Tryz.underlying9
  rw [Lib.Lz.strOfNums_map] at this
  exact this
theorem cells_new (w : World) (cs : Array Value) (t : TypeId) (i : Nat) (v : Value) (h : cs[i]? = some v) : (w.alloc (.cells cs t)).cell? ⟨w.heap.size, i, none⟩ = some v := by
  rw [World.cell?_alloc_new]; exact h
theorem conv1 (w : World) (a : UInt8) (x : Int) (hx : x = (a.toNat : Int)) :
    (convert 54 9 (.slice (some ⟨w.heap.size, 0, none⟩) 1 1)).run Tryz.prog (w.alloc (.cells #[.int .u8 x] 5)) = .ok (.string ⟨#[a]⟩) (w.alloc (.cells #[.int .u8 x] 5)) := by
  subst hx
  exact conv_list [a] (fun i h => by
    match i, h with
    | 0, _ => exact cells_new _ _ _ _ _ rfl)
theorem conv2 (w : World) (a b : UInt8) (x y : Int) (hx : x = (a.toNat : Int)) (hy : y = (b.toNat : Int)) :
    (convert 54 9 (.slice (some ⟨w.heap.size, 0, none⟩) 2 2)).run Tryz.prog (w.alloc (.cells #[.int .u8 x, .int .u8 y] 5)) = .ok (.string ⟨#[a, b]⟩) (w.alloc (.cells #[.int .u8 x, .int .u8 y] 5)) := by
  subst hx hy
  exact conv_list [a, b] (fun i h => by
    match i, h with
    | 0, _ => exact cells_new _ _ _ _ _ rfl
    | 1, _ => exact cells_new _ _ _ _ _ rfl)
theorem conv3 (w : World) (a b c : UInt8) (x y z : Int) (hx : x = (a.toNat : Int)) (hy : y = (b.toNat : Int)) (hz : z = (c.toNat : Int)) :
    (convert 54 9 (.slice (some ⟨w.heap.size, 0, none⟩) 3 3)).run Tryz.prog (w.alloc (.cells #[.int .u8 x, .int .u8 y, .int .u8 z] 5)) = .ok (.string ⟨#[a, b, c]⟩) (w.alloc (.cells #[.int .u8 x, .int .u8 y, .int .u8 z] 5)) := by
  subst hx hy hz
  exact conv_list [a, b, c] (fun i h => by
    match i, h with
    | 0, _ => exact cells_new _ _ _ _ _ rfl
    | 1, _ => exact cells_new _ _ _ _ _ rfl
    | 2, _ => exact cells_new _ _ _ _ _ rfl)
theorem conv4 (w : World) (a b c d : UInt8) (x y z u : Int) (hx : x = (a.toNat : Int)) (hy : y = (b.toNat : Int)) (hz : z = (c.toNat : Int)) (hu : u = (d.toNat : Int)) :
    (convert 54 9 (.slice (some ⟨w.heap.size, 0, none⟩) 4 4)).run Tryz.prog (w.alloc (.cells #[.int .u8 x, .int .u8 y, .int .u8 z, .int .u8 u] 5)) = .ok (.string ⟨#[a, b, c, d]⟩) (w.alloc (.cells #[.int .u8 x, .int .u8 y, .int .u8 z, .int .u8 u] 5)) := by
  subst hx hy hz hu
  exact conv_list [a, b, c, d] (fun i h => by
    match i, h with
    | 0, _ => exact cells_new _ _ _ _ _ rfl
    | 1, _ => exact cells_new _ _ _ _ _ rfl
    | 2, _ => exact cells_new _ _ _ _ _ rfl
    | 3, _ => exact cells_new _ _ _ _ _ rfl)

theorem refBytes_any (n : Nat) (hn : isLet n) (w : World) :
    Calls Tryz.prog 75 #[.int .i64 (n : Int)] w fun e w' => e = .returned (.string ⟨(enc n).toArray⟩) ∧ Below w.heap.size w w' := by
  have hi := hn
  unfold isLet at hi
  have h0 : (0 : Int) ≤ (n : Int) := by omega
  by_cases h1 : n < 128
  · rw [enc_one h1]
    have hcv := conv1 w (UInt8.ofNat n) (n : Int) (by rw [UInt8.toNat_ofNat']; omega)
    have k1 : (n : Int) < 128 := by omega
    clear hi hn h1
    go_enter Tryz.func75, Tryz.ntmps75
    go_wp2
    go_ret
    exact ⟨rfl, (Below.refl _ _).alloc (Nat.le_refl _) _⟩
  by_cases h2 : n < 2048
  · obtain ⟨a, b, e, ea, eb⟩ := enc_two (by omega) h2
    rw [e]
    have hcv := conv2 w a b (192 + (n : Int) / 64) (128 + (n : Int) % 64) (by omega) (by omega)
    have k1 : ¬ (n : Int) < 128 := by omega
    have k2 : (n : Int) < 2048 := by omega
    clear hi hn h1 h2 e ea eb
    go_enter Tryz.func75, Tryz.ntmps75
    go_wp2
    go_ret
    exact ⟨rfl, (Below.refl _ _).alloc (Nat.le_refl _) _⟩
  by_cases h3 : n < 65536
  · obtain ⟨a, b, c, e, ea, eb, ec⟩ := enc_three (by omega) h3 hn
    rw [e]
    have hcv := conv3 w a b c (224 + (n : Int) / 4096) (128 + (n : Int) / 64 % 64) (128 + (n : Int) % 64) (by omega) (by omega) (by omega)
    have k1 : ¬ (n : Int) < 128 := by omega
    have k2 : ¬ (n : Int) < 2048 := by omega
    have k3 : (n : Int) < 65536 := by omega
    clear hi hn h1 h2 h3 e ea eb ec
    go_enter Tryz.func75, Tryz.ntmps75
    go_wp2
    go_ret
    exact ⟨rfl, (Below.refl _ _).alloc (Nat.le_refl _) _⟩
  · obtain ⟨a, b, c, d, e, ea, eb, ec, ed⟩ := enc_four (by omega) hn
    rw [e]
    have hcv := conv4 w a b c d (240 + (n : Int) / 262144) (128 + (n : Int) / 4096 % 64) (128 + (n : Int) / 64 % 64) (128 + (n : Int) % 64) (by omega) (by omega) (by omega) (by omega)
    have k1 : ¬ (n : Int) < 128 := by omega
    have k2 : ¬ (n : Int) < 2048 := by omega
    have k3 : ¬ (n : Int) < 65536 := by omega
    have k4 : (n : Int) ≤ 1114111 := by omega
    clear hi hn h1 h2 h3 e ea eb ec ed
    go_enter Tryz.func75, Tryz.ntmps75
    go_wp2
    go_ret
    exact ⟨rfl, (Below.refl _ _).alloc (Nat.le_refl _) _⟩
end Go.Proofs.YtaniebkfgkhgoaaGreatDoor

namespace Go.Proofs.YtaniebkfgkhgoaaGreatDoor
open Go.RowKit
set_option linter.unusedVariables false
set_option maxRecDepth 100000

theorem btr {B : Nat} {a b c : World} (h : Below B a b) (hB : B ≤ a.heap.size) (k : Below b.heap.size b c) : Below B a c :=
  have hs : B ≤ b.heap.size := Nat.le_trans hB h.size
  h.trans { os := k.os, output := k.output, tape := k.tape, size := k.size, block := fun j hj => k.block j (Nat.lt_of_lt_of_le hj hs) }
/-- The number that so many bytes tell as a letter's. -/
def numRq (l : List UInt8) (b : Int) : Nat → Int
  | 0 => 0
  | 1 => ((l.getD 0 0).toNat : Int) - b
  | k + 2 => 64 * numRq l b (k + 1) + ((l.getD (k + 1) 0).toNat : Int) - 128
def baseR (k : Nat) : Int := if k = 1 then 0 else if k = 2 then 192 else if k = 3 then 224 else 240
theorem numR_lt (l : List UInt8) (b : Int) (h0 : 0 ≤ b) (h1 : b ≤ 240) : ∀ i, i ≤ 4 → -70000000 ≤ numRq l b i ∧ numRq l b i ≤ 70000000 := by
  intro i hi
  have k0 := (l.getD 0 0).toNat_lt
  have k1 := (l.getD 1 0).toNat_lt
  have k2 := (l.getD 2 0).toNat_lt
  have k3 := (l.getD 3 0).toNat_lt
  match i, hi with
  | 0, _ => simp [numRq]
  | 1, _ => simp only [numRq]; omega
  | 2, _ => simp only [numRq, Nat.zero_add]; omega
  | 3, _ => simp only [numRq, Nat.zero_add, Nat.reduceAdd]; omega
  | 4, _ => simp only [numRq, Nat.zero_add, Nat.reduceAdd]; omega
theorem numR_step (l : List UInt8) (b : Int) (i : Nat) (h : 1 ≤ i) : numRq l b (i + 1) = 64 * numRq l b i + ((l.getD i 0).toNat : Int) - 128 := by
  obtain ⟨j, rfl⟩ : ∃ j, i = j + 1 := ⟨i - 1, by omega⟩
  rfl
def letZ (z : Int) : Prop := 0 ≤ z ∧ z ≤ 1114111 ∧ (z < 55296 ∨ 57343 < z)
instance (z : Int) : Decidable (letZ z) := by unfold letZ; infer_instance
/-- The letter that begins a list, as the reference has it. -/
def refLetG (l : List UInt8) : Option (Nat × Nat) :=
  if refLen (l.getD 0 0).toNat = 0 ∨ l.length < refLen (l.getD 0 0).toNat then none
  else if letZ (numRq l (baseR (refLen (l.getD 0 0).toNat)) (refLen (l.getD 0 0).toNat)) ∧ enc (numRq l (baseR (refLen (l.getD 0 0).toNat)) (refLen (l.getD 0 0).toNat)).toNat = l.take (refLen (l.getD 0 0).toNat)
    then some ((numRq l (baseR (refLen (l.getD 0 0).toNat)) (refLen (l.getD 0 0).toNat)).toNat, refLen (l.getD 0 0).toNat) else none
theorem letZ_isLet {z : Int} (h : letZ z) : isLet z.toNat := by unfold letZ at h; unfold isLet; omega

theorem refLet_eq (l : List UInt8) (hne : l ≠ []) : refLetG l = letterG l := by
  have k0 := (l.getD 0 0).toNat_lt
  have k1 := (l.getD 1 0).toNat_lt
  have k2 := (l.getD 2 0).toNat_lt
  have k3 := (l.getD 3 0).toNat_lt
  have hl : 0 < l.length := List.length_pos_iff.2 hne
  cases hL : letterG l with
  | none =>
    unfold refLetG
    split
    · rfl
    rename_i hc
    rw [if_neg]
    rintro ⟨h1, h2⟩
    have hs : l = enc (numRq l (baseR (refLen (l.getD 0 0).toNat)) (refLen (l.getD 0 0).toNat)).toNat ++ l.drop (refLen (l.getD 0 0).toNat) := by rw [h2, List.take_append_drop]
    have := letter_enc _ (letZ_isLet h1) (l.drop (refLen (l.getD 0 0).toNat))
    rw [← hs, hL] at this
    cases this
  | some x =>
    obtain ⟨n, k⟩ := x
    obtain ⟨i1, i2, i3, i4, i5, i6, i7⟩ := letter_facts hL
    have key : refLen (l.getD 0 0).toNat = k ∧ numRq l (baseR k) k = (n : Int) := by
      rw [Lib.decodeL_N] at i7
      have hv : ¬ (n = 65533 ∧ k = 1) := by
        rintro ⟨rfl, rfl⟩
        have := (letter_split hL).2
        revert this; decide
      rcases Lib.decodeN_shape l.length (l.getD 0 0).toNat (l.getD 1 0).toNat (l.getD 2 0).toNat (l.getD 3 0).toNat with ⟨c, e⟩ | ⟨c1, c2, c3, cv, e⟩ | ⟨c1, c2, c3, c4, cv, cs, e⟩ | ⟨c1, c2, c3, c4, c5, cv, cw, e⟩ | e
      all_goals (rw [e] at i7; simp only [Prod.mk.injEq] at i7; obtain ⟨e1, e2⟩ := i7)
      · subst e2
        exact ⟨by unfold refLen; rw [if_pos (by omega)], by rw [show baseR 1 = 0 from rfl]; simp only [numRq]; omega⟩
      · subst e2
        exact ⟨by unfold refLen; rw [if_neg (by omega), if_pos (by omega)], by rw [show baseR 2 = 192 from rfl]; simp only [numRq, Nat.zero_add]; omega⟩
      · subst e2
        exact ⟨by unfold refLen; rw [if_neg (by omega), if_neg (by omega), if_pos (by omega)], by rw [show baseR 3 = 224 from rfl]; simp only [numRq, Nat.zero_add, Nat.reduceAdd]; omega⟩
      · subst e2
        exact ⟨by unfold refLen; rw [if_neg (by omega), if_neg (by omega), if_neg (by omega), if_pos (by omega)], by rw [show baseR 4 = 240 from rfl]; simp only [numRq, Nat.zero_add, Nat.reduceAdd]; omega⟩
      · exact absurd ⟨e1.symm, e2.symm⟩ hv
    obtain ⟨r1, r2⟩ := key
    unfold refLetG
    rw [r1, r2, if_neg (by omega), Int.toNat_natCast, if_pos]
    exact ⟨by unfold letZ; unfold isLet at i1; omega, i5⟩

def letS : Option (Nat × Nat) → Value
  | some (n, k) => .tuple #[.int .i64 (n : Int), .int .i64 (k : Int)]
  | none => .tuple #[.int .i64 0, .int .i64 0]

set_option maxHeartbeats 4000000 in
theorem refLetter_any (s : ByteArray) (w : World) (hs : s.size ≤ 1099511627776) :
    Calls Tryz.prog 87 #[.string s] w fun e w' => e = .returned (letS (letterG s.data.toList)) ∧ Below w.heap.size w w' := by
  have hl : s.data.toList.length = s.size := by simp
  obtain ⟨O, hO⟩ : ∃ O, O = letS (letterG s.data.toList) := ⟨_, rfl⟩
  rw [← hO]
  have HO := Lib.hid hO
  clear hO
  by_cases hz : s.size = 0
  · have hnil : s.data.toList = [] := List.eq_nil_of_length_eq_zero (by omega)
    have HE := Lib.hid (show letterG s.data.toList = none by rw [hnil]; rfl)
    have hb : (s.toList == []) = true := by rw [toList_eq, hnil]; rfl
    clear hl hz hnil
    go_enter Tryz.func87, Tryz.ntmps87
    go_wp2_with fail
    go_ret2
    exact ⟨by rw [HO.out, HE.out]; rfl, Below.refl _ _⟩
  · have hne : s.data.toList ≠ [] := by intro h; rw [h] at hl; simp at hl; omega
    have hb : (s.toList == []) = false := by rw [toList_eq]; cases h : s.data.toList with | nil => exact absurd h hne | cons _ _ => rfl
    have HR := Lib.hid (refLet_eq _ hne)
    have hp0 : 0 < s.size := by omega
    obtain ⟨a, ha⟩ : ∃ a, s[0]'hp0 = a := ⟨_, rfl⟩
    have hgd : s.data.toList.getD 0 0 = a := by
      have := Lib.data_getElem? s 0 hp0
      rw [ha] at this
      simp only [List.getD, this, Option.getD_some]
    have hlen := fun w0 => refLen_any a.toNat (UInt8.toNat_lt a) w0
    obtain ⟨k, hk⟩ : ∃ k, refLen a.toNat = k := ⟨_, rfl⟩
    rw [hk] at hlen
    have hk4 : k = 0 ∨ k = 1 ∨ k = 2 ∨ k = 3 ∨ k = 4 := by
      rw [← hk]; unfold refLen
      repeat' split
      all_goals omega
    have hz0 : (0 : Int) < s.size := by omega
    have HG := Lib.hid hgd
    have HK := Lib.hid hk
    have HL := Lib.hid hl
    by_cases hk0 : k = 0
    · subst hk0
      have HE := Lib.hid (show letterG s.data.toList = none by rw [← HR.out]; unfold refLetG; rw [hgd, hk, if_pos (Or.inl rfl)])
      clear hl hne hgd hk hk4
      go_enter Tryz.func87, Tryz.ntmps87
      go_wp2_with (go_at_call 104; refine (hlen _).mono ?_; (first | rintro e v rfl hv | rintro e v ⟨rfl, hv⟩); rw [hv]; clear hv)
      go_ret2
      exact ⟨by rw [HO.out, HE.out]; rfl, Below.refl _ _⟩
    · by_cases hks : s.size < k
      · have HE := Lib.hid (show letterG s.data.toList = none by rw [← HR.out]; unfold refLetG; rw [hgd, hk, if_pos (Or.inr (by omega))])
        have hks2 : (s.size : Int) < (k : Int) := by omega
        have hk0' : ((k : Int) == 0) = false := by simp; omega
        clear hl hne hgd hk hk4 hk0
        go_enter Tryz.func87, Tryz.ntmps87
        go_wp2_with (go_at_call 104; refine (hlen _).mono ?_; (first | rintro e v rfl hv | rintro e v ⟨rfl, hv⟩); rw [hv]; clear hv)
        go_ret2
        exact ⟨by rw [HO.out, HE.out]; rfl, Below.refl _ _⟩
      · have hks2 : (k : Int) ≤ (s.size : Int) := by omega
        have hb4 : ∀ i, i ≤ 4 → -70000000 ≤ numRq s.data.toList (baseR k) i ∧ numRq s.data.toList (baseR k) i ≤ 70000000 := numR_lt _ _ (by unfold baseR; repeat' split <;> omega) (by unfold baseR; repeat' split <;> omega)
        have HB4 := Lib.hid hb4
        have HST := Lib.hid (numR_step s.data.toList (baseR k))
        have HN1 : Hid (numRq s.data.toList (baseR k) 1 = (a.toNat : Int) - baseR k) := by show _ = _; simp only [numRq]; rw [hgd]
        have hkb : (k = 1 ∧ baseR k = 0) ∨ (k = 2 ∧ baseR k = 192) ∨ (k = 3 ∧ baseR k = 224) ∨ (k = 4 ∧ baseR k = 240) := by
          rcases hk4 with h | h | h | h | h
          · exact absurd h hk0
          all_goals (subst h; simp [baseR])
        obtain ⟨f, hf⟩ : ∃ f : Nat → Int, f = numRq s.data.toList (baseR k) := ⟨_, rfl⟩
        rw [← hf] at HB4 HST HN1
        have HF := Lib.hid hf
        clear hl hne hgd hk hk4 hk0 hb4 hf hks
        have ha1 := UInt8.toNat_lt a
        rcases hkb with ⟨rfl, hbase⟩ | ⟨rfl, hbase⟩ | ⟨rfl, hbase⟩ | ⟨rfl, hbase⟩
        · rw [hbase] at HN1
          have hn1 : f 1 = (a.toNat : Int) - 0 := by have := HN1.out; omega
          have HN2 := Lib.hid hn1
          clear hn1
          go_enter Tryz.func87, Tryz.ntmps87
          go_wp2_with (go_at_call 104; refine (hlen _).mono ?_; (first | rintro e v rfl hv | rintro e v ⟨rfl, hv⟩); rw [hv]; clear hv)
          go_loopw [5, 6] (fun nn ii wr => ∃ i : Nat, 1 ≤ i ∧ i ≤ 1 ∧ ii = .int .i64 (i : Int) ∧ nn = .int .i64 (f i) ∧ wr = w) (fun _ ii _ => 1 - (intOf ii).toNat)
          case atStart => exact ⟨1, by omega, by omega, rfl, by first | (rw [HN2.out]; done) | (rw [HN2.out]; simp), rfl⟩
          case round =>
            obtain ⟨i, hi1, hi2, rfl, rfl, rfl⟩ := hrel
            by_cases hlt : i < 1
            · exfalso; omega
            · have hik : i = 1 := by omega
              subst hik
              obtain ⟨z, hz⟩ : ∃ z, f 1 = z := ⟨_, rfl⟩
              rw [hz]
              have HZ := Lib.hid (show numRq s.data.toList (baseR 1) 1 = z by rw [← HF.out]; exact hz)
              have hR := HR.out
              unfold refLetG at hR
              rw [HG.out, HK.out, if_neg (by rw [HL.out]; omega), HZ.out] at hR
              have HR2 := Lib.hid hR
              have hlz := fun w0 => isLetter_any z w0
              clear hz hR
              by_cases hlet : letZ z
              · obtain ⟨n, hn⟩ : ∃ n : Nat, z = (n : Int) := ⟨z.toNat, by unfold letZ at hlet; omega⟩
                have hil := letZ_isLet hlet
                rw [hn, Int.toNat_natCast] at hil
                have hlz : ∀ w0, Calls Tryz.prog 105 #[.int .i64 z] w0 fun e w' => e = .returned (.bool true) ∧ w' = w0 := fun w0 => by
                  have := isLetter_any z w0
                  rw [show decide (0 ≤ z ∧ z ≤ 1114111 ∧ (z < 55296 ∨ 57343 < z)) = true from decide_eq_true hlet] at this
                  exact this
                have hby := fun w0 => refBytes_any n hil w0
                rw [← hn] at hby
                obtain ⟨E, hE⟩ : ∃ E : ByteArray, (⟨(enc n).toArray⟩ : ByteArray) = E := ⟨_, rfl⟩
                rw [hE] at hby
                have hxs : (s.extract 0 1).data.toList = s.data.toList.take 1 := by rw [Lib.extract_data]; simp
                by_cases heq : enc n = s.data.toList.take 1
                · have h1 : (E.toList == (s.extract 0 1).toList) = true := by rw [toList_eq, toList_eq, hxs, ← heq, ← hE]; simp
                  have h2 : (E.toList != (s.extract 0 1).toList) = false := by rw [bne, h1]; rfl
                  have HE := Lib.hid (show letterG s.data.toList = some (n, 1) by rw [← HR2.out, hn, Int.toNat_natCast, if_pos ⟨by rw [← hn]; exact hlet, heq⟩])
                  have HN := Lib.hid hn
                  clear hlet hxs heq hE hil hn
                  go_wp2_with fail
                  go_region_held3 (fun w' => Below wr.heap.size wr w')
                    (first | exact Below.refl _ _ | exact (Below.refl _ _).drew | assumption | exact btr (Below.refl _ _) (Nat.le_refl _) hbd | exact btr (Below.refl _ _).drew (Nat.le_refl _) hbd | exact btr (by assumption) (Nat.le_refl _) hbd | go_keep)
                    (first
                      | (go_at_call 105; (with_reducible refine (hlz _).mono ?_); rintro e wc ⟨rfl, rfl⟩)
                      | (go_at_call 75; (with_reducible refine (hby _).mono ?_); rintro e wd ⟨rfl, hbd⟩))
                  have HBW : Hid (Below wr.heap.size wr wd) := by assumption
                  clear hbd
                  go_wp2_with fail
                  go_ret2
                  refine ⟨?_, HBW.out⟩
                  rw [HO.out, HE.out]
                  show _ = Ending.returned (.tuple #[.int .i64 (n : Int), .int .i64 1])
                  rw [← HN.out]
                  rfl
                · have h1 : (E.toList == (s.extract 0 1).toList) = false := by
                    rw [toList_eq, toList_eq, hxs, ← hE]
                    simpa using heq
                  have h2 : (E.toList != (s.extract 0 1).toList) = true := by rw [bne, h1]; rfl
                  have HE := Lib.hid (show letterG s.data.toList = none by rw [← HR2.out, hn, Int.toNat_natCast, if_neg (fun h => heq h.2)])
                  clear hlet hxs heq hE hil hn
                  go_wp2_with fail
                  go_region_held3 (fun w' => Below wr.heap.size wr w')
                    (first | exact Below.refl _ _ | exact (Below.refl _ _).drew | assumption | exact btr (Below.refl _ _) (Nat.le_refl _) hbd | exact btr (Below.refl _ _).drew (Nat.le_refl _) hbd | exact btr (by assumption) (Nat.le_refl _) hbd | go_keep)
                    (first
                      | (go_at_call 105; (with_reducible refine (hlz _).mono ?_); rintro e wc ⟨rfl, rfl⟩)
                      | (go_at_call 75; (with_reducible refine (hby _).mono ?_); rintro e wd ⟨rfl, hbd⟩))
                  have HBW : Hid (Below wr.heap.size wr wd) := by assumption
                  clear hbd
                  go_wp2_with fail
                  go_ret2
                  exact ⟨by rw [HO.out, HE.out]; rfl, HBW.out⟩
              · have hlz : ∀ w0, Calls Tryz.prog 105 #[.int .i64 z] w0 fun e w' => e = .returned (.bool false) ∧ w' = w0 := fun w0 => by
                  have := isLetter_any z w0
                  rw [show decide (0 ≤ z ∧ z ≤ 1114111 ∧ (z < 55296 ∨ 57343 < z)) = false from decide_eq_false hlet] at this
                  exact this
                have HE := Lib.hid (show letterG s.data.toList = none by rw [← HR2.out, if_neg (fun h => hlet h.1)])
                clear hlet
                go_wp2_with fail
                go_quiet ((go_at_call 105; exact Calls.quiet_of_same (hlz _)))
                go_wp2_with fail
                go_ret2
                exact ⟨by rw [HO.out, HE.out]; rfl, below_drewN (Below.refl _ _) _⟩
        · rw [hbase] at HN1
          have hn1 : f 1 = (a.toNat : Int) - 192 := by have := HN1.out; omega
          have HN2 := Lib.hid hn1
          clear hn1
          go_enter Tryz.func87, Tryz.ntmps87
          go_wp2_with (go_at_call 104; refine (hlen _).mono ?_; (first | rintro e v rfl hv | rintro e v ⟨rfl, hv⟩); rw [hv]; clear hv)
          go_loopw [5, 6] (fun nn ii wr => ∃ i : Nat, 1 ≤ i ∧ i ≤ 2 ∧ ii = .int .i64 (i : Int) ∧ nn = .int .i64 (f i) ∧ wr = w) (fun _ ii _ => 2 - (intOf ii).toNat)
          case atStart => exact ⟨1, by omega, by omega, rfl, by first | (rw [HN2.out]; done) | (rw [HN2.out]; simp), rfl⟩
          case round =>
            obtain ⟨i, hi1, hi2, rfl, rfl, rfl⟩ := hrel
            by_cases hlt : i < 2
            · have hip : i < s.size := by omega
              obtain ⟨y, hy⟩ : ∃ y, s[i]'hip = y := ⟨_, rfl⟩
              have hyg : s.data.toList.getD i 0 = y := by
                have := Lib.data_getElem? s i hip
                rw [hy] at this
                simp only [List.getD, this, Option.getD_some]
              have hstep := HST.out i hi1
              rw [hyg] at hstep
              have hb1 := HB4.out i (by omega)
              have hb2 := HB4.out (i + 1) (by omega)
              have hy1 := UInt8.toNat_lt y
              have HSTEP := Lib.hid hstep
              obtain ⟨z, hz⟩ : ∃ z, f i = z := ⟨_, rfl⟩
              rw [hz] at hb1 ⊢
              have hw1 : IntKind.i64.wrap (64 * z) = 64 * z := IntWalk.i64_in _ (by omega)
              have hw2 : IntKind.i64.wrap (64 * z + (y.toNat : Int)) = 64 * z + (y.toNat : Int) := IntWalk.i64_in _ (by omega)
              have hw3 : IntKind.i64.wrap (64 * z + (y.toNat : Int) - 128) = 64 * z + (y.toNat : Int) - 128 := IntWalk.i64_in _ (by omega)
              have hii : (i : Int) < (s.size : Int) := by omega
              have HZ := Lib.hid hz
              clear hstep hb2 hyg hz
              go_wp2_with fail
              go_roundw
              case rel => exact ⟨i + 1, by omega, by omega, by go_num, by rw [HSTEP.out, HZ.out], by first | rfl | trivial⟩
              case measure => simp [intOf]; omega
            · have hik : i = 2 := by omega
              subst hik
              obtain ⟨z, hz⟩ : ∃ z, f 2 = z := ⟨_, rfl⟩
              rw [hz]
              have HZ := Lib.hid (show numRq s.data.toList (baseR 2) 2 = z by rw [← HF.out]; exact hz)
              have hR := HR.out
              unfold refLetG at hR
              rw [HG.out, HK.out, if_neg (by rw [HL.out]; omega), HZ.out] at hR
              have HR2 := Lib.hid hR
              have hlz := fun w0 => isLetter_any z w0
              clear hz hR
              by_cases hlet : letZ z
              · obtain ⟨n, hn⟩ : ∃ n : Nat, z = (n : Int) := ⟨z.toNat, by unfold letZ at hlet; omega⟩
                have hil := letZ_isLet hlet
                rw [hn, Int.toNat_natCast] at hil
                have hlz : ∀ w0, Calls Tryz.prog 105 #[.int .i64 z] w0 fun e w' => e = .returned (.bool true) ∧ w' = w0 := fun w0 => by
                  have := isLetter_any z w0
                  rw [show decide (0 ≤ z ∧ z ≤ 1114111 ∧ (z < 55296 ∨ 57343 < z)) = true from decide_eq_true hlet] at this
                  exact this
                have hby := fun w0 => refBytes_any n hil w0
                rw [← hn] at hby
                obtain ⟨E, hE⟩ : ∃ E : ByteArray, (⟨(enc n).toArray⟩ : ByteArray) = E := ⟨_, rfl⟩
                rw [hE] at hby
                have hxs : (s.extract 0 2).data.toList = s.data.toList.take 2 := by rw [Lib.extract_data]; simp
                by_cases heq : enc n = s.data.toList.take 2
                · have h1 : (E.toList == (s.extract 0 2).toList) = true := by rw [toList_eq, toList_eq, hxs, ← heq, ← hE]; simp
                  have h2 : (E.toList != (s.extract 0 2).toList) = false := by rw [bne, h1]; rfl
                  have HE := Lib.hid (show letterG s.data.toList = some (n, 2) by rw [← HR2.out, hn, Int.toNat_natCast, if_pos ⟨by rw [← hn]; exact hlet, heq⟩])
                  have HN := Lib.hid hn
                  clear hlet hxs heq hE hil hn
                  go_wp2_with fail
                  go_region_held3 (fun w' => Below wr.heap.size wr w')
                    (first | exact Below.refl _ _ | exact (Below.refl _ _).drew | assumption | exact btr (Below.refl _ _) (Nat.le_refl _) hbd | exact btr (Below.refl _ _).drew (Nat.le_refl _) hbd | exact btr (by assumption) (Nat.le_refl _) hbd | go_keep)
                    (first
                      | (go_at_call 105; (with_reducible refine (hlz _).mono ?_); rintro e wc ⟨rfl, rfl⟩)
                      | (go_at_call 75; (with_reducible refine (hby _).mono ?_); rintro e wd ⟨rfl, hbd⟩))
                  have HBW : Hid (Below wr.heap.size wr wd) := by assumption
                  clear hbd
                  go_wp2_with fail
                  go_ret2
                  refine ⟨?_, HBW.out⟩
                  rw [HO.out, HE.out]
                  show _ = Ending.returned (.tuple #[.int .i64 (n : Int), .int .i64 2])
                  rw [← HN.out]
                  rfl
                · have h1 : (E.toList == (s.extract 0 2).toList) = false := by
                    rw [toList_eq, toList_eq, hxs, ← hE]
                    simpa using heq
                  have h2 : (E.toList != (s.extract 0 2).toList) = true := by rw [bne, h1]; rfl
                  have HE := Lib.hid (show letterG s.data.toList = none by rw [← HR2.out, hn, Int.toNat_natCast, if_neg (fun h => heq h.2)])
                  clear hlet hxs heq hE hil hn
                  go_wp2_with fail
                  go_region_held3 (fun w' => Below wr.heap.size wr w')
                    (first | exact Below.refl _ _ | exact (Below.refl _ _).drew | assumption | exact btr (Below.refl _ _) (Nat.le_refl _) hbd | exact btr (Below.refl _ _).drew (Nat.le_refl _) hbd | exact btr (by assumption) (Nat.le_refl _) hbd | go_keep)
                    (first
                      | (go_at_call 105; (with_reducible refine (hlz _).mono ?_); rintro e wc ⟨rfl, rfl⟩)
                      | (go_at_call 75; (with_reducible refine (hby _).mono ?_); rintro e wd ⟨rfl, hbd⟩))
                  have HBW : Hid (Below wr.heap.size wr wd) := by assumption
                  clear hbd
                  go_wp2_with fail
                  go_ret2
                  exact ⟨by rw [HO.out, HE.out]; rfl, HBW.out⟩
              · have hlz : ∀ w0, Calls Tryz.prog 105 #[.int .i64 z] w0 fun e w' => e = .returned (.bool false) ∧ w' = w0 := fun w0 => by
                  have := isLetter_any z w0
                  rw [show decide (0 ≤ z ∧ z ≤ 1114111 ∧ (z < 55296 ∨ 57343 < z)) = false from decide_eq_false hlet] at this
                  exact this
                have HE := Lib.hid (show letterG s.data.toList = none by rw [← HR2.out, if_neg (fun h => hlet h.1)])
                clear hlet
                go_wp2_with fail
                go_quiet ((go_at_call 105; exact Calls.quiet_of_same (hlz _)))
                go_wp2_with fail
                go_ret2
                exact ⟨by rw [HO.out, HE.out]; rfl, below_drewN (Below.refl _ _) _⟩
        · rw [hbase] at HN1
          have hn1 : f 1 = (a.toNat : Int) - 224 := by have := HN1.out; omega
          have HN2 := Lib.hid hn1
          clear hn1
          go_enter Tryz.func87, Tryz.ntmps87
          go_wp2_with (go_at_call 104; refine (hlen _).mono ?_; (first | rintro e v rfl hv | rintro e v ⟨rfl, hv⟩); rw [hv]; clear hv)
          go_loopw [5, 6] (fun nn ii wr => ∃ i : Nat, 1 ≤ i ∧ i ≤ 3 ∧ ii = .int .i64 (i : Int) ∧ nn = .int .i64 (f i) ∧ wr = w) (fun _ ii _ => 3 - (intOf ii).toNat)
          case atStart => exact ⟨1, by omega, by omega, rfl, by first | (rw [HN2.out]; done) | (rw [HN2.out]; simp), rfl⟩
          case round =>
            obtain ⟨i, hi1, hi2, rfl, rfl, rfl⟩ := hrel
            by_cases hlt : i < 3
            · have hip : i < s.size := by omega
              obtain ⟨y, hy⟩ : ∃ y, s[i]'hip = y := ⟨_, rfl⟩
              have hyg : s.data.toList.getD i 0 = y := by
                have := Lib.data_getElem? s i hip
                rw [hy] at this
                simp only [List.getD, this, Option.getD_some]
              have hstep := HST.out i hi1
              rw [hyg] at hstep
              have hb1 := HB4.out i (by omega)
              have hb2 := HB4.out (i + 1) (by omega)
              have hy1 := UInt8.toNat_lt y
              have HSTEP := Lib.hid hstep
              obtain ⟨z, hz⟩ : ∃ z, f i = z := ⟨_, rfl⟩
              rw [hz] at hb1 ⊢
              have hw1 : IntKind.i64.wrap (64 * z) = 64 * z := IntWalk.i64_in _ (by omega)
              have hw2 : IntKind.i64.wrap (64 * z + (y.toNat : Int)) = 64 * z + (y.toNat : Int) := IntWalk.i64_in _ (by omega)
              have hw3 : IntKind.i64.wrap (64 * z + (y.toNat : Int) - 128) = 64 * z + (y.toNat : Int) - 128 := IntWalk.i64_in _ (by omega)
              have hii : (i : Int) < (s.size : Int) := by omega
              have HZ := Lib.hid hz
              clear hstep hb2 hyg hz
              go_wp2_with fail
              go_roundw
              case rel => exact ⟨i + 1, by omega, by omega, by go_num, by rw [HSTEP.out, HZ.out], by first | rfl | trivial⟩
              case measure => simp [intOf]; omega
            · have hik : i = 3 := by omega
              subst hik
              obtain ⟨z, hz⟩ : ∃ z, f 3 = z := ⟨_, rfl⟩
              rw [hz]
              have HZ := Lib.hid (show numRq s.data.toList (baseR 3) 3 = z by rw [← HF.out]; exact hz)
              have hR := HR.out
              unfold refLetG at hR
              rw [HG.out, HK.out, if_neg (by rw [HL.out]; omega), HZ.out] at hR
              have HR2 := Lib.hid hR
              have hlz := fun w0 => isLetter_any z w0
              clear hz hR
              by_cases hlet : letZ z
              · obtain ⟨n, hn⟩ : ∃ n : Nat, z = (n : Int) := ⟨z.toNat, by unfold letZ at hlet; omega⟩
                have hil := letZ_isLet hlet
                rw [hn, Int.toNat_natCast] at hil
                have hlz : ∀ w0, Calls Tryz.prog 105 #[.int .i64 z] w0 fun e w' => e = .returned (.bool true) ∧ w' = w0 := fun w0 => by
                  have := isLetter_any z w0
                  rw [show decide (0 ≤ z ∧ z ≤ 1114111 ∧ (z < 55296 ∨ 57343 < z)) = true from decide_eq_true hlet] at this
                  exact this
                have hby := fun w0 => refBytes_any n hil w0
                rw [← hn] at hby
                obtain ⟨E, hE⟩ : ∃ E : ByteArray, (⟨(enc n).toArray⟩ : ByteArray) = E := ⟨_, rfl⟩
                rw [hE] at hby
                have hxs : (s.extract 0 3).data.toList = s.data.toList.take 3 := by rw [Lib.extract_data]; simp
                by_cases heq : enc n = s.data.toList.take 3
                · have h1 : (E.toList == (s.extract 0 3).toList) = true := by rw [toList_eq, toList_eq, hxs, ← heq, ← hE]; simp
                  have h2 : (E.toList != (s.extract 0 3).toList) = false := by rw [bne, h1]; rfl
                  have HE := Lib.hid (show letterG s.data.toList = some (n, 3) by rw [← HR2.out, hn, Int.toNat_natCast, if_pos ⟨by rw [← hn]; exact hlet, heq⟩])
                  have HN := Lib.hid hn
                  clear hlet hxs heq hE hil hn
                  go_wp2_with fail
                  go_region_held3 (fun w' => Below wr.heap.size wr w')
                    (first | exact Below.refl _ _ | exact (Below.refl _ _).drew | assumption | exact btr (Below.refl _ _) (Nat.le_refl _) hbd | exact btr (Below.refl _ _).drew (Nat.le_refl _) hbd | exact btr (by assumption) (Nat.le_refl _) hbd | go_keep)
                    (first
                      | (go_at_call 105; (with_reducible refine (hlz _).mono ?_); rintro e wc ⟨rfl, rfl⟩)
                      | (go_at_call 75; (with_reducible refine (hby _).mono ?_); rintro e wd ⟨rfl, hbd⟩))
                  have HBW : Hid (Below wr.heap.size wr wd) := by assumption
                  clear hbd
                  go_wp2_with fail
                  go_ret2
                  refine ⟨?_, HBW.out⟩
                  rw [HO.out, HE.out]
                  show _ = Ending.returned (.tuple #[.int .i64 (n : Int), .int .i64 3])
                  rw [← HN.out]
                  rfl
                · have h1 : (E.toList == (s.extract 0 3).toList) = false := by
                    rw [toList_eq, toList_eq, hxs, ← hE]
                    simpa using heq
                  have h2 : (E.toList != (s.extract 0 3).toList) = true := by rw [bne, h1]; rfl
                  have HE := Lib.hid (show letterG s.data.toList = none by rw [← HR2.out, hn, Int.toNat_natCast, if_neg (fun h => heq h.2)])
                  clear hlet hxs heq hE hil hn
                  go_wp2_with fail
                  go_region_held3 (fun w' => Below wr.heap.size wr w')
                    (first | exact Below.refl _ _ | exact (Below.refl _ _).drew | assumption | exact btr (Below.refl _ _) (Nat.le_refl _) hbd | exact btr (Below.refl _ _).drew (Nat.le_refl _) hbd | exact btr (by assumption) (Nat.le_refl _) hbd | go_keep)
                    (first
                      | (go_at_call 105; (with_reducible refine (hlz _).mono ?_); rintro e wc ⟨rfl, rfl⟩)
                      | (go_at_call 75; (with_reducible refine (hby _).mono ?_); rintro e wd ⟨rfl, hbd⟩))
                  have HBW : Hid (Below wr.heap.size wr wd) := by assumption
                  clear hbd
                  go_wp2_with fail
                  go_ret2
                  exact ⟨by rw [HO.out, HE.out]; rfl, HBW.out⟩
              · have hlz : ∀ w0, Calls Tryz.prog 105 #[.int .i64 z] w0 fun e w' => e = .returned (.bool false) ∧ w' = w0 := fun w0 => by
                  have := isLetter_any z w0
                  rw [show decide (0 ≤ z ∧ z ≤ 1114111 ∧ (z < 55296 ∨ 57343 < z)) = false from decide_eq_false hlet] at this
                  exact this
                have HE := Lib.hid (show letterG s.data.toList = none by rw [← HR2.out, if_neg (fun h => hlet h.1)])
                clear hlet
                go_wp2_with fail
                go_quiet ((go_at_call 105; exact Calls.quiet_of_same (hlz _)))
                go_wp2_with fail
                go_ret2
                exact ⟨by rw [HO.out, HE.out]; rfl, below_drewN (Below.refl _ _) _⟩
        · rw [hbase] at HN1
          have hn1 : f 1 = (a.toNat : Int) - 240 := by have := HN1.out; omega
          have HN2 := Lib.hid hn1
          clear hn1
          go_enter Tryz.func87, Tryz.ntmps87
          go_wp2_with (go_at_call 104; refine (hlen _).mono ?_; (first | rintro e v rfl hv | rintro e v ⟨rfl, hv⟩); rw [hv]; clear hv)
          go_loopw [5, 6] (fun nn ii wr => ∃ i : Nat, 1 ≤ i ∧ i ≤ 4 ∧ ii = .int .i64 (i : Int) ∧ nn = .int .i64 (f i) ∧ wr = w) (fun _ ii _ => 4 - (intOf ii).toNat)
          case atStart => exact ⟨1, by omega, by omega, rfl, by first | (rw [HN2.out]; done) | (rw [HN2.out]; simp), rfl⟩
          case round =>
            obtain ⟨i, hi1, hi2, rfl, rfl, rfl⟩ := hrel
            by_cases hlt : i < 4
            · have hip : i < s.size := by omega
              obtain ⟨y, hy⟩ : ∃ y, s[i]'hip = y := ⟨_, rfl⟩
              have hyg : s.data.toList.getD i 0 = y := by
                have := Lib.data_getElem? s i hip
                rw [hy] at this
                simp only [List.getD, this, Option.getD_some]
              have hstep := HST.out i hi1
              rw [hyg] at hstep
              have hb1 := HB4.out i (by omega)
              have hb2 := HB4.out (i + 1) (by omega)
              have hy1 := UInt8.toNat_lt y
              have HSTEP := Lib.hid hstep
              obtain ⟨z, hz⟩ : ∃ z, f i = z := ⟨_, rfl⟩
              rw [hz] at hb1 ⊢
              have hw1 : IntKind.i64.wrap (64 * z) = 64 * z := IntWalk.i64_in _ (by omega)
              have hw2 : IntKind.i64.wrap (64 * z + (y.toNat : Int)) = 64 * z + (y.toNat : Int) := IntWalk.i64_in _ (by omega)
              have hw3 : IntKind.i64.wrap (64 * z + (y.toNat : Int) - 128) = 64 * z + (y.toNat : Int) - 128 := IntWalk.i64_in _ (by omega)
              have hii : (i : Int) < (s.size : Int) := by omega
              have HZ := Lib.hid hz
              clear hstep hb2 hyg hz
              go_wp2_with fail
              go_roundw
              case rel => exact ⟨i + 1, by omega, by omega, by go_num, by rw [HSTEP.out, HZ.out], by first | rfl | trivial⟩
              case measure => simp [intOf]; omega
            · have hik : i = 4 := by omega
              subst hik
              obtain ⟨z, hz⟩ : ∃ z, f 4 = z := ⟨_, rfl⟩
              rw [hz]
              have HZ := Lib.hid (show numRq s.data.toList (baseR 4) 4 = z by rw [← HF.out]; exact hz)
              have hR := HR.out
              unfold refLetG at hR
              rw [HG.out, HK.out, if_neg (by rw [HL.out]; omega), HZ.out] at hR
              have HR2 := Lib.hid hR
              have hlz := fun w0 => isLetter_any z w0
              clear hz hR
              by_cases hlet : letZ z
              · obtain ⟨n, hn⟩ : ∃ n : Nat, z = (n : Int) := ⟨z.toNat, by unfold letZ at hlet; omega⟩
                have hil := letZ_isLet hlet
                rw [hn, Int.toNat_natCast] at hil
                have hlz : ∀ w0, Calls Tryz.prog 105 #[.int .i64 z] w0 fun e w' => e = .returned (.bool true) ∧ w' = w0 := fun w0 => by
                  have := isLetter_any z w0
                  rw [show decide (0 ≤ z ∧ z ≤ 1114111 ∧ (z < 55296 ∨ 57343 < z)) = true from decide_eq_true hlet] at this
                  exact this
                have hby := fun w0 => refBytes_any n hil w0
                rw [← hn] at hby
                obtain ⟨E, hE⟩ : ∃ E : ByteArray, (⟨(enc n).toArray⟩ : ByteArray) = E := ⟨_, rfl⟩
                rw [hE] at hby
                have hxs : (s.extract 0 4).data.toList = s.data.toList.take 4 := by rw [Lib.extract_data]; simp
                by_cases heq : enc n = s.data.toList.take 4
                · have h1 : (E.toList == (s.extract 0 4).toList) = true := by rw [toList_eq, toList_eq, hxs, ← heq, ← hE]; simp
                  have h2 : (E.toList != (s.extract 0 4).toList) = false := by rw [bne, h1]; rfl
                  have HE := Lib.hid (show letterG s.data.toList = some (n, 4) by rw [← HR2.out, hn, Int.toNat_natCast, if_pos ⟨by rw [← hn]; exact hlet, heq⟩])
                  have HN := Lib.hid hn
                  clear hlet hxs heq hE hil hn
                  go_wp2_with fail
                  go_region_held3 (fun w' => Below wr.heap.size wr w')
                    (first | exact Below.refl _ _ | exact (Below.refl _ _).drew | assumption | exact btr (Below.refl _ _) (Nat.le_refl _) hbd | exact btr (Below.refl _ _).drew (Nat.le_refl _) hbd | exact btr (by assumption) (Nat.le_refl _) hbd | go_keep)
                    (first
                      | (go_at_call 105; (with_reducible refine (hlz _).mono ?_); rintro e wc ⟨rfl, rfl⟩)
                      | (go_at_call 75; (with_reducible refine (hby _).mono ?_); rintro e wd ⟨rfl, hbd⟩))
                  have HBW : Hid (Below wr.heap.size wr wd) := by assumption
                  clear hbd
                  go_wp2_with fail
                  go_ret2
                  refine ⟨?_, HBW.out⟩
                  rw [HO.out, HE.out]
                  show _ = Ending.returned (.tuple #[.int .i64 (n : Int), .int .i64 4])
                  rw [← HN.out]
                  rfl
                · have h1 : (E.toList == (s.extract 0 4).toList) = false := by
                    rw [toList_eq, toList_eq, hxs, ← hE]
                    simpa using heq
                  have h2 : (E.toList != (s.extract 0 4).toList) = true := by rw [bne, h1]; rfl
                  have HE := Lib.hid (show letterG s.data.toList = none by rw [← HR2.out, hn, Int.toNat_natCast, if_neg (fun h => heq h.2)])
                  clear hlet hxs heq hE hil hn
                  go_wp2_with fail
                  go_region_held3 (fun w' => Below wr.heap.size wr w')
                    (first | exact Below.refl _ _ | exact (Below.refl _ _).drew | assumption | exact btr (Below.refl _ _) (Nat.le_refl _) hbd | exact btr (Below.refl _ _).drew (Nat.le_refl _) hbd | exact btr (by assumption) (Nat.le_refl _) hbd | go_keep)
                    (first
                      | (go_at_call 105; (with_reducible refine (hlz _).mono ?_); rintro e wc ⟨rfl, rfl⟩)
                      | (go_at_call 75; (with_reducible refine (hby _).mono ?_); rintro e wd ⟨rfl, hbd⟩))
                  have HBW : Hid (Below wr.heap.size wr wd) := by assumption
                  clear hbd
                  go_wp2_with fail
                  go_ret2
                  exact ⟨by rw [HO.out, HE.out]; rfl, HBW.out⟩
              · have hlz : ∀ w0, Calls Tryz.prog 105 #[.int .i64 z] w0 fun e w' => e = .returned (.bool false) ∧ w' = w0 := fun w0 => by
                  have := isLetter_any z w0
                  rw [show decide (0 ≤ z ∧ z ≤ 1114111 ∧ (z < 55296 ∨ 57343 < z)) = false from decide_eq_false hlet] at this
                  exact this
                have HE := Lib.hid (show letterG s.data.toList = none by rw [← HR2.out, if_neg (fun h => hlet h.1)])
                clear hlet
                go_wp2_with fail
                go_quiet ((go_at_call 105; exact Calls.quiet_of_same (hlz _)))
                go_wp2_with fail
                go_ret2
                exact ⟨by rw [HO.out, HE.out]; rfl, below_drewN (Below.refl _ _) _⟩
end Go.Proofs.YtaniebkfgkhgoaaGreatDoor

namespace Go.Proofs.YtaniebkfgkhgoaaGreatDoor
open Go.RowKit
set_option linter.unusedVariables false
set_option maxRecDepth 100000

theorem extr_list (s : ByteArray) (pos : Nat) : (s.extract pos s.size).data.toList = s.data.toList.drop pos := by
  rw [Lib.extract_data, List.take_of_length_le (by simp)]

theorem refValid_any (s : ByteArray) (w : World) (hs : s.size ≤ 1099511627776) :
    Calls Tryz.prog 63 #[.string s] w fun e w' => e = .returned (.bool (Lib.validD s.data.toList)) ∧ Below w.heap.size w w' := by
  have HL := Lib.hid (show s.data.toList.length = s.size by simp)
  obtain ⟨O, hO⟩ : ∃ O, O = Lib.validD s.data.toList := ⟨_, rfl⟩
  rw [← hO]
  have HO := Lib.hid hO
  clear hO
  go_enter Tryz.func63, Tryz.ntmps63
  go_wp2_with fail
  go_loopw [3] (fun ii wr => ∃ pos : Nat, pos ≤ s.size ∧ ii = .int .i64 (pos : Int) ∧ Hid (Below w.heap.size w wr) ∧ Hid (Lib.validD (s.data.toList.drop pos) = O) ∧ w.heap.size ≤ wr.heap.size) (fun ii _ => s.size - (intOf ii).toNat)
  case atStart => exact ⟨0, Nat.zero_le _, rfl, Below.refl _ _, HO.out.symm, Nat.le_refl _⟩
  case round =>
    obtain ⟨pos, hpos, rfl, hbel, hval, hsz⟩ := hrel
    by_cases hp : pos < s.size
    · have hne : s.data.toList.drop pos ≠ [] := by
        intro h
        have := congrArg List.length h
        rw [List.length_drop, HL.out] at this; simp at this; omega
      have hv := valid_step _ hne
      have hle := fun w0 => refLetter_any (s.extract pos s.size) w0 (by rw [Lib.size_eq, extr_list, List.length_drop, HL.out]; omega)
      rw [extr_list] at hle
      have hpz : (pos : Int) < (s.size : Int) := by omega
      cases hL : letterG (s.data.toList.drop pos) with
      | none =>
        have HV := Lib.hid (show O = false by rw [← hval.out, hv, hL])
        rw [hL] at hle
        change ∀ w0, Calls Tryz.prog 87 #[.string (s.extract pos s.size)] w0 fun e w' => e = .returned (.tuple #[.int .i64 0, .int .i64 0]) ∧ Below w0.heap.size w0 w' at hle
        clear hL hv hne hval
        go_wp2_with (go_at_call 87; refine (hle _).mono ?_)
        first | rintro e W1 rfl b1 | rintro e W1 ⟨rfl, b1⟩
        have B1 := Lib.hid (btr hbel.out (Nat.le_refl _) b1)
        clear b1
        go_wp2_with fail
        go_ret
        exact ⟨by rw [HV.out]; rfl, B1.out⟩
      | some x =>
        obtain ⟨n, k⟩ := x
        obtain ⟨i1, i2, i3, i4, i5, i6, i7⟩ := letter_facts hL
        rw [List.length_drop, HL.out] at i4
        rw [hL] at hv
        simp only [List.drop_drop] at hv
        have HV := Lib.hid (hv.symm.trans hval.out)
        rw [hL] at hle
        change ∀ w0, Calls Tryz.prog 87 #[.string (s.extract pos s.size)] w0 fun e w' => e = .returned (.tuple #[.int .i64 (n : Int), .int .i64 (k : Int)]) ∧ Below w0.heap.size w0 w' at hle
        have hk0 : ((k : Int) == 0) = false := by simp; omega
        have hw1 : IntKind.i64.wrap ((pos : Int) + (k : Int)) = (pos : Int) + (k : Int) := IntWalk.i64_in _ (by omega)
        clear hL hv hne hval i1 i5 i6 i7
        go_wp2_with (go_at_call 87; refine (hle _).mono ?_)
        first | rintro e W1 rfl b1 | rintro e W1 ⟨rfl, b1⟩
        have B1 := Lib.hid (btr hbel.out (Nat.le_refl _) b1)
        have S1 := b1.size
        clear b1
        go_wp2_with fail
        go_roundw
        case rel => exact ⟨pos + k, by omega, by go_num, B1.out, HV.out, by omega⟩
        case measure => simp [intOf]; omega
    · have HV := Lib.hid (show O = true by rw [← hval.out, List.drop_of_length_le (by rw [HL.out]; omega)]; rfl)
      have hpz : ¬ (pos : Int) < (s.size : Int) := by omega
      clear hval
      go_wp2_with fail
      go_ret
      exact ⟨by rw [HV.out]; rfl, hbel.out⟩

theorem refShort_any (n : Nat) (w : World) :
    Calls Tryz.prog 100 #[.int .i64 (n : Int)] w fun e w' => e = .returned (.int .u8 (shortG n : Int)) ∧ w' = w := by
  have key : ∀ z r : Int, (z = 34 ∧ r = 34) ∨ (z = 92 ∧ r = 92) ∨ (z = 8 ∧ r = 98) ∨ (z = 12 ∧ r = 102) ∨ (z = 10 ∧ r = 110) ∨ (z = 13 ∧ r = 114) ∨ (z = 9 ∧ r = 116) →
      Calls Tryz.prog 100 #[.int .i64 z] w fun e w' => e = .returned (.int .u8 r) ∧ w' = w := by
    intro z r h
    rcases h with ⟨rfl, rfl⟩ | ⟨rfl, rfl⟩ | ⟨rfl, rfl⟩ | ⟨rfl, rfl⟩ | ⟨rfl, rfl⟩ | ⟨rfl, rfl⟩ | ⟨rfl, rfl⟩
    all_goals
      go_enter Tryz.func100, Tryz.ntmps100
      go_wp2
      go_ret
      exact ⟨rfl, rfl⟩
  have key2 : ∀ z : Int, (z == 34) = false → (z == 92) = false → (z == 8) = false → (z == 12) = false → (z == 10) = false → (z == 13) = false → (z == 9) = false →
      Calls Tryz.prog 100 #[.int .i64 z] w fun e w' => e = .returned (.int .u8 0) ∧ w' = w := by
    intro z h1 h2 h3 h4 h5 h6 h7
    go_enter Tryz.func100, Tryz.ntmps100
    go_wp2
    go_ret
    exact ⟨rfl, rfl⟩
  by_cases h : 0 < shortG n
  · apply key
    unfold shortG at h ⊢
    repeat' split at h
    all_goals first | omega | (rename_i hh; subst hh; simp) | simp_all
  · have h0 : shortG n = 0 := by omega
    rw [h0]
    unfold shortG at h0
    repeat' split at h0
    all_goals first | (exfalso; omega) | (apply key2 <;> (simp; omega))

def hexN : Nat → Nat → List UInt8
  | 0, _ => []
  | d + 1, n => hexN d (n / 16) ++ [hByte (n % 16)]
theorem hexN_four (n : Nat) (h : n < 256) : hexN 4 n = [48, 48, hByte (n / 16), hByte (n % 16)] := by
  have e1 : n / 16 % 16 = n / 16 := by omega
  have e2 : n / 16 / 16 = 0 := by omega
  simp [hexN, e1, e2]
  decide
theorem add_frontR (w : World) (d : UInt8) (y : List UInt8) (h : y.length + 1 ≤ 9223372036854775807) : (Op.stringOp .add ⟨#[d]⟩ ⟨y.toArray⟩).run Tryz.prog w = .ok (.string ⟨(d :: y).toArray⟩) w := by
  rw [run_string_add_sum w _ _ (by simp [ByteArray.size]; omega)]
  have := ByteArray.mk_append_mk [d] y
  rw [List.singleton_append] at this
  rw [← this]

theorem refHexs_any (m : Nat) (w : World) (hm : m < 65536) :
    Calls Tryz.prog 101 #[.int .i64 (m : Int)] w fun e w' => e = .returned (.string ⟨(hexN 4 m).toArray⟩) ∧ Below w.heap.size w w' := by
  obtain ⟨O, hO⟩ : ∃ O, O = hexN 4 m := ⟨_, rfl⟩
  rw [← hO]
  have HO := Lib.hid hO
  clear hO
  go_enter Tryz.func101, Tryz.ntmps101
  go_wp2
  go_loopw [0, 3, 4] (fun rest txt cnt wr => ∃ (r k : Nat) (acc : List UInt8), rest = .int .i64 r ∧ txt = .string ⟨acc.toArray⟩ ∧ cnt = .int .i64 k ∧ k ≤ 4 ∧ r ≤ m ∧ Hid (acc.length = k) ∧ Hid (hexN (4 - k) r ++ acc = O) ∧ Hid (Below w.heap.size w wr) ∧ w.heap.size ≤ wr.heap.size) (fun _ _ cnt _ => 4 - (intOf cnt).toNat)
  case atStart => exact ⟨m, 0, [], rfl, rfl, rfl, by omega, by omega, rfl, by show hexN 4 m ++ [] = O; rw [HO.out, List.append_nil], Below.refl _ _, Nat.le_refl _⟩
  case round =>
    obtain ⟨r, k, acc, rfl, rfl, rfl, hk, hr, hacc, hhex, hbel, hsz⟩ := hrel
    by_cases hlt : k < 4
    · have hd0 := hByte_toNat (r % 16) (by omega)
      have hadd := fun w0 : World => add_frontR w0 (hByte (r % 16)) acc (by have := hacc.out; omega)
      have HX := Lib.hid (show hexN (4 - (k + 1)) (r / 16) ++ (hByte (r % 16) :: acc) = O by
        rw [← hhex.out, show 4 - k = (4 - (k + 1)) + 1 by omega]; simp [hexN])
      by_cases h10 : r % 16 < 10
      · have hz10 : (r : Int) % 16 < 10 := by omega
        have hcv := conv1 wr (hByte (r % 16)) (48 + (r : Int) % 16) (by rw [hd0, if_pos h10]; omega)
        clear hd0 hhex h10
        go_wp2
        go_roundw
        case rel => exact ⟨r / 16, k + 1, hByte (r % 16) :: acc, by go_num, rfl, by go_num, by omega, by omega, by have := hacc.out; show List.length _ = _; simpa using this, HX.out, hbel.out.alloc hsz _, by simp; omega⟩
        case measure => simp [intOf]; omega
      · have hz10 : ¬ (r : Int) % 16 < 10 := by omega
        have hcv := conv1 wr (hByte (r % 16)) (97 + (r : Int) % 16 - 10) (by rw [hd0, if_neg h10]; omega)
        clear hd0 hhex h10
        go_wp2
        go_roundw
        case rel => exact ⟨r / 16, k + 1, hByte (r % 16) :: acc, by go_num, rfl, by go_num, by omega, by omega, by have := hacc.out; show List.length _ = _; simpa using this, HX.out, hbel.out.alloc hsz _, by simp; omega⟩
        case measure => simp [intOf]; omega
    · have hk4 : k = 4 := by omega
      have HA := Lib.hid (show acc = O by rw [← hhex.out, hk4]; rfl)
      clear hhex
      go_wp2
      go_ret
      exact ⟨by rw [← HA.out]; rfl, hbel.out⟩
end Go.Proofs.YtaniebkfgkhgoaaGreatDoor

namespace Go.Proofs.YtaniebkfgkhgoaaGreatDoor
open Go.RowKit
set_option linter.unusedVariables false
set_option maxRecDepth 100000

def partG (l : List UInt8) : Nat → Option Nat
  | 0 => some 0
  | i + 1 => (partG l i).bind fun m => (hexB (l.getD i 0).toNat).map fun d => 16 * m + d
theorem part_four (l : List UInt8) (h : 4 ≤ l.length) : partG l 4 = fourG l := by
  match l, h with
  | a :: b :: c :: d :: t, _ =>
    simp only [partG, fourG, List.getD_cons_zero, List.getD_cons_succ, Option.bind_some]
    cases hexB a.toNat <;> cases hexB b.toNat <;> cases hexB c.toNat <;> cases hexB d.toNat <;> simp
    omega
theorem part_none (l : List UInt8) (i : Nat) (h : partG l i = none) : ∀ j, i ≤ j → partG l j = none
  | 0, hj => by have : i = 0 := by omega
                subst this; exact h
  | j + 1, hj => by
    by_cases e : i = j + 1
    · subst e; exact h
    · have := part_none l i h j (by omega)
      simp only [partG, this, Option.bind_none]
theorem part_lt (l : List UInt8) : ∀ i m, partG l i = some m → m < 16 ^ i
  | 0, m, h => by simp [partG] at h; subst h; simp
  | i + 1, m, h => by
    simp only [partG] at h
    cases hp : partG l i with
    | none => rw [hp] at h; cases h
    | some q =>
      rw [hp] at h
      simp only [Option.bind_some] at h
      cases hx : hexB (l.getD i 0).toNat with
      | none => rw [hx] at h; cases h
      | some d =>
        rw [hx] at h
        simp at h
        have := part_lt l i q hp
        have := (hexB_lt hx).1
        rw [Nat.pow_succ]; omega

def fourZ : Option Nat → Int
  | some n => (n : Int)
  | none => -1

theorem refFour_any (s : ByteArray) (w : World) (hs : s.size ≤ 1099511627776) :
    Calls Tryz.prog 114 #[.string s] w fun e w' => e = .returned (.int .i64 (fourZ (fourG s.data.toList))) ∧ w' = w := by
  have hl : s.data.toList.length = s.size := by simp
  obtain ⟨O, hO⟩ : ∃ O, O = fourZ (fourG s.data.toList) := ⟨_, rfl⟩
  rw [← hO]
  have HO := Lib.hid hO
  clear hO
  by_cases h4 : s.size < 4
  · have HE := Lib.hid (show O = -1 by
      rw [HO.out]
      cases hf : fourG s.data.toList with
      | none => rfl
      | some n => have := (fourG_facts hf).2.1; omega)
    have h4' : (s.size : Int) < 4 := by omega
    clear hl
    go_enter Tryz.func114, Tryz.ntmps114
    go_wp2
    go_ret
    exact ⟨by rw [HE.out]; rfl, rfl⟩
  · have h4' : ¬ (s.size : Int) < 4 := by omega
    have HF := Lib.hid (part_four s.data.toList (by omega))
    have hsz4 : 4 ≤ s.size := by omega
    clear hl h4
    go_enter Tryz.func114, Tryz.ntmps114
    go_wp2
    go_loop [3, 4] (fun nn ii => ∃ i m : Nat, i ≤ 4 ∧ ii = .int .i64 (i : Int) ∧ nn = .int .i64 (m : Int) ∧ Hid (partG s.data.toList i = some m)) (fun _ ii => 4 - (intOf ii).toNat)
    case atStart => exact ⟨0, 0, by omega, rfl, rfl, rfl⟩
    case round =>
      obtain ⟨i, m, hi, rfl, rfl, hpart⟩ := hrel
      by_cases hlt : i < 4
      · have hip : i < s.size := by omega
        obtain ⟨y, hy⟩ : ∃ y, s[i]'hip = y := ⟨_, rfl⟩
        have hyg : s.data.toList.getD i 0 = y := by
          have := Lib.data_getElem? s i hip
          rw [hy] at this
          simp only [List.getD, this, Option.getD_some]
        have hpl := part_lt _ _ _ hpart.out
        have h16 : 16 ^ i ≤ 16 ^ 3 := Nat.pow_le_pow_right (by omega) (by omega)
        have hm : m < 4096 := by have : (16 : Nat) ^ 3 = 4096 := rfl; omega
        have hnext : partG s.data.toList (i + 1) = (hexB y.toNat).map fun d => 16 * m + d := by
          simp only [partG, hpart.out, Option.bind_some, hyg]
        have hii : (i : Int) < (s.size : Int) := by omega
        have hii0 : (0 : Int) ≤ (i : Int) := by omega
        have hy1 := UInt8.toNat_lt y
        obtain ⟨z, hz⟩ : ∃ z : Int, z = (y.toNat : Int) := ⟨_, rfl⟩
        have hz0 : 0 ≤ z := by omega
        have hz1 : z < 256 := by omega
        have hidx : ∀ h : i < s.size, ((s[i]'h).toNat : Int) = z := fun h => by rw [hz, hy]
        cases hx : hexB y.toNat with
        | none =>
          have HE := Lib.hid (show O = -1 by
            rw [HO.out, ← HF.out, part_none _ (i + 1) (by rw [hnext, hx]; rfl) 4 (by omega)]; rfl)
          have key : z < 48 ∨ (57 < z ∧ z < 65) ∨ (70 < z ∧ z < 97) ∨ 102 < z := by
            unfold hexB at hx
            split at hx
            · cases hx
            split at hx
            · cases hx
            split at hx
            · cases hx
            omega
          clear hx hnext hpart hpl h16 hyg hz hy
          rcases key with k1 | ⟨k1, k2⟩ | ⟨k1, k2⟩ | k1
          all_goals
            go_wp2
            go_ret
            exact ⟨by rw [HE.out]; rfl, rfl⟩
        | some d =>
          have HP := Lib.hid (show partG s.data.toList (i + 1) = some (16 * m + d) by rw [hnext, hx]; rfl)
          have hd := (hexB_lt hx).1
          have key : (48 ≤ z ∧ z ≤ 57 ∧ (d : Int) = z - 48) ∨ (97 ≤ z ∧ z ≤ 102 ∧ (d : Int) = z - 97 + 10) ∨ (65 ≤ z ∧ z ≤ 70 ∧ (d : Int) = z - 65 + 10) := by
            unfold hexB at hx
            split at hx
            · cases hx; omega
            split at hx
            · cases hx; omega
            split at hx
            · cases hx; omega
            · cases hx
          clear hx hnext hpart hpl h16 hyg hz hy
          rcases key with ⟨k1, k2, k3⟩ | ⟨k1, k2, k3⟩ | ⟨k1, k2, k3⟩
          all_goals
            have HD := Lib.hid k3
            clear k3
            go_wp2
            go_round
            case rel => exact ⟨i + 1, 16 * m + d, by omega, by go_num, by have := HD.out; first | go_num | (congr 1; omega), HP.out⟩
            case measure => simp [intOf]; omega
      · have hi4 : i = 4 := by omega
        have HE := Lib.hid (show O = (m : Int) by rw [HO.out, ← HF.out, ← hi4, hpart.out]; rfl)
        clear hpart
        go_wp2
        go_ret
        exact ⟨by rw [HE.out]; rfl, rfl⟩
end Go.Proofs.YtaniebkfgkhgoaaGreatDoor

namespace Go.Proofs.YtaniebkfgkhgoaaGreatDoor
open Go.RowKit
set_option linter.unusedVariables false
set_option maxRecDepth 100000

theorem at_list (s : ByteArray) (i : Nat) (h : i < s.size) (x : UInt8) (hx : s.data.toList[i]? = some x) : s[i]'h = x := by
  rw [Lib.data_getElem? s i h] at hx
  exact Option.some.inj hx

theorem unit_cut (l : List UInt8) (a b : UInt8) (t : List UInt8) (h : l = a :: b :: t) : unitG l = if a = 92 ∧ b = 117 then fourG (l.drop 2) else none := by
  subst h; rfl

set_option maxHeartbeats 4000000 in
theorem refLong_any (s : ByteArray) (t : List UInt8) (ht : s.data.toList = 92 :: 117 :: t) (w : World) (hs : s.size ≤ 1099511627776) :
    Calls Tryz.prog 96 #[.string s] w fun e w' => e = .returned (letS (longG s.data.toList)) ∧ w' = w := by
  have hl : s.data.toList.length = s.size := by simp
  have hsz2 : 2 ≤ s.size := by rw [ht] at hl; simp at hl; omega
  obtain ⟨O, hO⟩ : ∃ O, O = letS (longG s.data.toList) := ⟨_, rfl⟩
  rw [← hO]
  have HO := Lib.hid hO
  clear hO
  have hu : unitG s.data.toList = fourG (s.data.toList.drop 2) := by rw [unit_cut _ 92 117 t ht]; rfl
  have hfo := fun w0 => refFour_any (s.extract 2 s.size) w0 (by rw [Lib.size_eq, extr_list, List.length_drop]; omega)
  rw [extr_list] at hfo
  have hz2 : (2 : Int) ≤ (s.size : Int) := by omega
  cases hf : fourG (s.data.toList.drop 2) with
  | none =>
    have HE := Lib.hid (show O = .tuple #[.int .i64 0, .int .i64 0] by rw [HO.out]; unfold longG; rw [hu, hf]; rfl)
    rw [hf] at hfo
    change ∀ w0, Calls Tryz.prog 114 #[.string (s.extract 2 s.size)] w0 fun e w' => e = .returned (.int .i64 (-1)) ∧ w' = w0 at hfo
    clear hl ht hu hf
    go_enter Tryz.func96, Tryz.ntmps96
    go_wp2_with (go_at_call 114; refine (hfo _).mono ?_; (first | rintro e v rfl hv | rintro e v ⟨rfl, hv⟩); rw [hv]; clear hv)
    go_ret2
    exact ⟨by rw [HE.out]; rfl, rfl⟩
  | some n =>
    have hn := (fourG_facts hf).1
    rw [hf] at hfo
    obtain ⟨z, hz⟩ : ∃ z : Int, z = (n : Int) := ⟨_, rfl⟩
    change ∀ w0, Calls Tryz.prog 114 #[.string (s.extract 2 s.size)] w0 fun e w' => e = .returned (.int .i64 (n : Int)) ∧ w' = w0 at hfo
    rw [← hz] at hfo
    have hz0 : ¬ z < 0 := by omega
    by_cases hlet : n < 55296 ∨ 57344 ≤ n
    · have HE := Lib.hid (show O = .tuple #[.int .i64 z, .int .i64 6] by rw [HO.out]; unfold longG; rw [hu, hf]; simp only; rw [if_pos hlet, hz]; rfl)
      have hle : ∀ w0, Calls Tryz.prog 105 #[.int .i64 z] w0 fun e w' => e = .returned (.bool true) ∧ w' = w0 := fun w0 => by
        have := isLetter_any z w0
        rw [show decide (0 ≤ z ∧ z ≤ 1114111 ∧ (z < 55296 ∨ 57343 < z)) = true from decide_eq_true (by omega)] at this
        exact this
      clear hl ht hu hf hz hlet hn
      go_enter Tryz.func96, Tryz.ntmps96
      go_wp2_with (first
        | (go_at_call 114; refine (hfo _).mono ?_; (first | rintro e v rfl hv | rintro e v ⟨rfl, hv⟩); rw [hv]; clear hv)
        | (go_at_call 105; refine (hle _).mono ?_; (first | rintro e v rfl hv | rintro e v ⟨rfl, hv⟩); rw [hv]; clear hv))
      go_ret2
      exact ⟨by rw [HE.out]; rfl, rfl⟩
    · have hle : ∀ w0, Calls Tryz.prog 105 #[.int .i64 z] w0 fun e w' => e = .returned (.bool false) ∧ w' = w0 := fun w0 => by
        have := isLetter_any z w0
        rw [show decide (0 ≤ z ∧ z ≤ 1114111 ∧ (z < 55296 ∨ 57343 < z)) = false from decide_eq_false (by omega)] at this
        exact this
      by_cases hhi : 56320 ≤ n
      · have HE := Lib.hid (show O = .tuple #[.int .i64 0, .int .i64 0] by rw [HO.out]; unfold longG; rw [hu, hf]; simp only; rw [if_neg hlet, if_pos hhi]; rfl)
        have k1 : 56319 < z := by omega
        clear hl ht hu hf hz hlet hn hhi
        go_enter Tryz.func96, Tryz.ntmps96
        go_wp2_with (first
          | (go_at_call 114; refine (hfo _).mono ?_; (first | rintro e v rfl hv | rintro e v ⟨rfl, hv⟩); rw [hv]; clear hv)
          | (go_at_call 105; refine (hle _).mono ?_; (first | rintro e v rfl hv | rintro e v ⟨rfl, hv⟩); rw [hv]; clear hv))
        go_ret2
        exact ⟨by rw [HE.out]; rfl, rfl⟩
      · have k1 : ¬ 56319 < z := by omega
        have hlong : longG s.data.toList = match unitG (s.data.toList.drop 6) with
            | none => none
            | some m => if 56320 ≤ m ∧ m < 57344 then some (65536 + (n - 55296) * 1024 + (m - 56320), 12) else none := by
          unfold longG; rw [hu, hf]; simp only; rw [if_neg hlet, if_neg hhi]
          cases unitG (s.data.toList.drop 6) <;> rfl
        by_cases h12 : s.size < 12
        · have HE := Lib.hid (show O = .tuple #[.int .i64 0, .int .i64 0] by
            rw [HO.out, hlong]
            cases hu6 : unitG (s.data.toList.drop 6) with
            | none => rfl
            | some m => have := (unitG_facts hu6).2.1; rw [List.length_drop] at this; omega)
          have k2 : (s.size : Int) < 12 := by omega
          clear hl ht hu hf hz hlet hn hhi hlong h12
          go_enter Tryz.func96, Tryz.ntmps96
          go_wp2_with (first
            | (go_at_call 114; refine (hfo _).mono ?_; (first | rintro e v rfl hv | rintro e v ⟨rfl, hv⟩); rw [hv]; clear hv)
            | (go_at_call 105; refine (hle _).mono ?_; (first | rintro e v rfl hv | rintro e v ⟨rfl, hv⟩); rw [hv]; clear hv))
          go_ret2
          exact ⟨by rw [HE.out]; rfl, rfl⟩
        · have k2 : ¬ (s.size : Int) < 12 := by omega
          have h6 : 6 < s.size := by omega
          have h7 : 7 < s.size := by omega
          obtain ⟨x, hx⟩ : ∃ x, s[6]'h6 = x := ⟨_, rfl⟩
          obtain ⟨y, hy⟩ : ∃ y, s[7]'h7 = y := ⟨_, rfl⟩
          have hd6 : s.data.toList.drop 6 = x :: y :: s.data.toList.drop 8 := by
            rw [drop_cons s 6 h6, drop_cons s 7 h7, hx, hy]
          have hu6 := unit_cut _ x y _ hd6
          rw [List.drop_drop] at hu6
          by_cases hxy : x = 92 ∧ y = 117
          · obtain ⟨rfl, rfl⟩ := hxy
            rw [if_pos ⟨rfl, rfl⟩] at hu6
            have hfo2 := fun w0 => refFour_any (s.extract 8 s.size) w0 (by rw [Lib.size_eq, extr_list, List.length_drop]; omega)
            rw [extr_list] at hfo2
            have hz8 : (8 : Int) ≤ (s.size : Int) := by omega
            have hxx : (((92 : UInt8).toNat : Int) == 92) = true := by decide
            cases hf2 : fourG (s.data.toList.drop 8) with
            | none =>
              have HE := Lib.hid (show O = .tuple #[.int .i64 0, .int .i64 0] by rw [HO.out, hlong, hu6, hf2]; rfl)
              rw [hf2] at hfo2
              change ∀ w0, Calls Tryz.prog 114 #[.string (s.extract 8 s.size)] w0 fun e w' => e = .returned (.int .i64 (-1)) ∧ w' = w0 at hfo2
              clear hl ht hu hf hz hlet hn hhi hlong h12 hd6 hu6 hf2
              go_enter Tryz.func96, Tryz.ntmps96
              go_wp2_with (first
                | (go_at_call 114; (with_reducible refine (hfo _).mono ?_); (first | rintro e v rfl hv | rintro e v ⟨rfl, hv⟩); rw [hv]; clear hv)
                | (go_at_call 114; (with_reducible refine (hfo2 _).mono ?_); (first | rintro e v rfl hv | rintro e v ⟨rfl, hv⟩); rw [hv]; clear hv)
                | (go_at_call 105; refine (hle _).mono ?_; (first | rintro e v rfl hv | rintro e v ⟨rfl, hv⟩); rw [hv]; clear hv))
              go_ret2
              exact ⟨by rw [HE.out]; rfl, rfl⟩
            | some m =>
              have hm := (fourG_facts hf2).1
              rw [hf2] at hfo2
              obtain ⟨q, hq⟩ : ∃ q : Int, q = (m : Int) := ⟨_, rfl⟩
              change ∀ w0, Calls Tryz.prog 114 #[.string (s.extract 8 s.size)] w0 fun e w' => e = .returned (.int .i64 (m : Int)) ∧ w' = w0 at hfo2
              rw [← hq] at hfo2
              by_cases hmr : 56320 ≤ m ∧ m < 57344
              · have HE := Lib.hid (show O = .tuple #[.int .i64 (65536 + (z - 55296) * 1024 + q - 56320), .int .i64 12] by
                  rw [HO.out, hlong, hu6, hf2]; simp only; rw [if_pos hmr]
                  show Value.tuple #[.int .i64 ((65536 + (n - 55296) * 1024 + (m - 56320) : Nat) : Int), .int .i64 12] = _
                  rw [show ((65536 + (n - 55296) * 1024 + (m - 56320) : Nat) : Int) = 65536 + (z - 55296) * 1024 + q - 56320 by omega])
                have j1 : ¬ q < 56320 := by omega
                have j2 : ¬ 57343 < q := by omega
                have w1 : IntKind.i64.wrap (z - 55296) = z - 55296 := IntWalk.i64_in _ (by omega)
                have w2 : IntKind.i64.wrap ((z - 55296) * 1024) = (z - 55296) * 1024 := IntWalk.i64_in _ (by omega)
                have w3 : IntKind.i64.wrap (65536 + (z - 55296) * 1024) = 65536 + (z - 55296) * 1024 := IntWalk.i64_in _ (by omega)
                have w4 : IntKind.i64.wrap (65536 + (z - 55296) * 1024 + q) = 65536 + (z - 55296) * 1024 + q := IntWalk.i64_in _ (by omega)
                have w5 : IntKind.i64.wrap (65536 + (z - 55296) * 1024 + q - 56320) = 65536 + (z - 55296) * 1024 + q - 56320 := IntWalk.i64_in _ (by omega)
                have hzr : 55296 ≤ z ∧ z < 56320 := by omega
                have hzr1 := hzr.1
                have hzr2 := hzr.2
                have hqr : q < 57344 := by omega
                clear hl ht hu hf hz hlet hn hhi hlong h12 hd6 hu6 hf2 hmr hm hq hzr
                go_enter Tryz.func96, Tryz.ntmps96
                go_wp2_with (first
                  | (go_at_call 114; (with_reducible refine (hfo _).mono ?_); (first | rintro e v rfl hv | rintro e v ⟨rfl, hv⟩); rw [hv]; clear hv)
                  | (go_at_call 114; (with_reducible refine (hfo2 _).mono ?_); (first | rintro e v rfl hv | rintro e v ⟨rfl, hv⟩); rw [hv]; clear hv)
                  | (go_at_call 105; refine (hle _).mono ?_; (first | rintro e v rfl hv | rintro e v ⟨rfl, hv⟩); rw [hv]; clear hv))
                go_ret2
                exact ⟨by rw [HE.out]; rfl, rfl⟩
              · have HE := Lib.hid (show O = .tuple #[.int .i64 0, .int .i64 0] by rw [HO.out, hlong, hu6, hf2]; simp only; rw [if_neg hmr]; rfl)
                have key : q < 56320 ∨ (¬ q < 56320 ∧ 57343 < q) := by omega
                clear hl ht hu hf hz hlet hn hhi hlong h12 hd6 hu6 hf2 hmr hm hq
                rcases key with j1 | ⟨j1, j2⟩
                all_goals
                  go_enter Tryz.func96, Tryz.ntmps96
                  go_wp2_with (first
                    | (go_at_call 114; (with_reducible refine (hfo _).mono ?_); (first | rintro e v rfl hv | rintro e v ⟨rfl, hv⟩); rw [hv]; clear hv)
                    | (go_at_call 114; (with_reducible refine (hfo2 _).mono ?_); (first | rintro e v rfl hv | rintro e v ⟨rfl, hv⟩); rw [hv]; clear hv)
                    | (go_at_call 105; refine (hle _).mono ?_; (first | rintro e v rfl hv | rintro e v ⟨rfl, hv⟩); rw [hv]; clear hv))
                  go_ret2
                  exact ⟨by rw [HE.out]; rfl, rfl⟩
          · rw [if_neg hxy] at hu6
            have HE := Lib.hid (show O = .tuple #[.int .i64 0, .int .i64 0] by rw [HO.out, hlong, hu6]; rfl)
            have key : (((x.toNat : Int) == 92) = false ∧ ((x.toNat : Int) != 92) = true) ∨ (((x.toNat : Int) == 92) = true ∧ ((x.toNat : Int) != 92) = false ∧ ((y.toNat : Int) == 117) = false ∧ ((y.toNat : Int) != 117) = true) := by
              by_cases hx92 : x = 92
              · right
                have : y.toNat ≠ 117 := fun h => hxy ⟨hx92, UInt8.toNat_inj.1 h⟩
                refine ⟨by rw [hx92]; rfl, by rw [hx92]; rfl, by simp; omega, by simp; omega⟩
              · left
                have : x.toNat ≠ 92 := fun h => hx92 (UInt8.toNat_inj.1 h)
                refine ⟨by simp; omega, by simp; omega⟩
            clear hl ht hu hf hz hlet hn hhi hlong h12 hd6 hu6 hxy
            rcases key with ⟨j1, j1'⟩ | ⟨j1, j1', j2, j2'⟩
            all_goals
              go_enter Tryz.func96, Tryz.ntmps96
              go_wp2_with (first
                | (go_at_call 114; (with_reducible refine (hfo _).mono ?_); (first | rintro e v rfl hv | rintro e v ⟨rfl, hv⟩); rw [hv]; clear hv)
                | (go_at_call 105; refine (hle _).mono ?_; (first | rintro e v rfl hv | rintro e v ⟨rfl, hv⟩); rw [hv]; clear hv))
              go_ret2
              exact ⟨by rw [HE.out]; rfl, rfl⟩
end Go.Proofs.YtaniebkfgkhgoaaGreatDoor

namespace Go.Proofs.YtaniebkfgkhgoaaGreatDoor
open Go.RowKit
set_option linter.unusedVariables false
set_option maxRecDepth 100000

/-- What an append of a string leaves. -/
theorem own_str {w wr w1 : World} {B : Nat} {v v' : Value} {l : List UInt8} {t : ByteArray} (hB : B ≤ wr.heap.size) (hbel : Below B w wr)
    (hown : wr.ownsRow B 5 1 v l.length (cellsOf l)) (hown' : w1.ownsRow B 5 1 v' (l.length + t.size) (cellsOf l ++ Lib.strCells t)) (hgrow : wr.grownBy w1 v.ownBlock) :
    w1.ownsRow B 5 1 v' (l ++ t.data.toList).length (cellsOf (l ++ t.data.toList)) ∧ Below B w w1 ∧ B ≤ w1.heap.size := by
  have hb := hbel.grown hgrow hB (fun k hk => (hown.lt k hk).1)
  have e : cellsOf (l ++ t.data.toList) = cellsOf l ++ Lib.strCells t := by simp [cellsOf, Lib.strCells]
  refine ⟨by rw [e, List.length_append]; simpa using hown', hb, ?_⟩
  have := hgrow.size
  omega
theorem own_below {B : Nat} {v : Value} {l : List UInt8} {w w' : World} (h : w.ownsRow B 5 1 v l.length (cellsOf l)) (hb : Below w.heap.size w w') : w'.ownsRow B 5 1 v l.length (cellsOf l) := by
  have old : ∀ {k : Nat} {o : Obj}, w.heap[k]? = some o → w'.heap[k]? = some o := fun {k o} hk => by
    rw [hb.block k (Array.getElem?_eq_some_iff.1 hk).1]; exact hk
  refine ⟨h.1, ?_⟩
  rcases h.2 with hn | ⟨g, cap, cur, hv', hbg, hg, rest⟩
  · exact .inl hn
  · exact .inr ⟨g, cap, cur, hv', hbg, old hg, rest⟩

theorem add_u (w0 : World) (a b : UInt8) : (Op.stringOp .add ⟨#[92, 117]⟩ ⟨#[48, 48, a, b]⟩).run Tryz.prog w0 = .ok (.string ⟨#[92, 117, 48, 48, a, b]⟩) w0 := by
  rw [run_string_add_sum w0 _ _ (by simp [ByteArray.size])]
  exact congrArg (fun x => Result.ok (Value.string x) w0) (ByteArray.mk_append_mk [92, 117] [48, 48, a, b])

set_option maxHeartbeats 4000000 in
theorem refQuote_any (s : ByteArray) (w : World) (hs : s.size ≤ 1048576) :
    Calls Tryz.prog 79 #[.string s] w fun e w' => e = .returned (quoteS s.data.toList) ∧ Below w.heap.size w w' := by
  have hl : s.data.toList.length = s.size := by simp
  obtain ⟨O, hO⟩ : ∃ O, O = quoteS s.data.toList := ⟨_, rfl⟩
  rw [← hO]
  have HO := Lib.hid hO
  clear hO
  have hva := fun w0 => refValid_any s w0 (by omega)
  cases hv : Lib.validD s.data.toList with
  | false =>
    have HQ := Lib.hid (show O = .tuple #[.string ⟨#[]⟩, .int .i64 2] by rw [HO.out]; unfold quoteS; rw [hv]; rfl)
    rw [hv] at hva
    clear hl hv
    go_enter Tryz.func79, Tryz.ntmps79
    go_wp2_with (go_at_call 63; refine (hva _).mono ?_)
    first | rintro e W1 rfl b1 | rintro e W1 ⟨rfl, b1⟩
    have B1 := Lib.hid b1
    clear b1
    go_wp2_with fail
    go_ret2
    exact ⟨by rw [HQ.out]; rfl, B1.out⟩
  | true =>
    rw [hv] at hva
    by_cases hbig : 65536 < s.size
    · have HQ := Lib.hid (show O = .tuple #[.string ⟨#[]⟩, .int .i64 5] by rw [HO.out]; unfold quoteS; rw [hv, if_pos rfl, if_pos (by omega)])
      have hb : (65536 : Int) < (s.size : Int) := by omega
      clear hl hv
      go_enter Tryz.func79, Tryz.ntmps79
      go_wp2_with (go_at_call 63; refine (hva _).mono ?_)
      first | rintro e W1 rfl b1 | rintro e W1 ⟨rfl, b1⟩
      have B1 := Lib.hid b1
      clear b1
      go_wp2_with fail
      go_ret2
      exact ⟨by rw [HQ.out]; rfl, B1.out⟩
    · have HQ := Lib.hid (show O = .tuple #[.string ⟨(quoteG s.data.toList).toArray⟩, .int .i64 0] by rw [HO.out]; unfold quoteS; rw [hv, if_pos rfl, if_neg (by omega)])
      have hb : (s.size : Int) ≤ 65536 := by omega
      have HL := Lib.hid hl
      have HV := Lib.hid hv
      obtain ⟨i0, hi, hz0, hz1, hz2⟩ := info_parts info8
      clear hl hv hbig
      go_enter Tryz.func79, Tryz.ntmps79
      go_wp2_with (go_at_call 63; refine (hva _).mono ?_)
      first | rintro e W1 rfl b1 | rintro e W1 ⟨rfl, b1⟩
      have B1 := Lib.hid b1
      have S1 := b1.size
      clear b1 hva
      have hown0 : W1.ownsRow w.heap.size 5 1 (.slice none 0 0) ([] : List UInt8).length (cellsOf []) := World.ownsRow_nil _ _ _ _
      go_wp2_with (at_builtin; refine wpList_append_own _ rfl (.tmp 16) (.tmp 17) 54 rfl w.heap.size 5 i0 (.int .u8 0) 1 1 Tryz.underlying54 hi hz0 hz1 hz2 rfl (by decide) (.slice none 0 0) 0 (cellsOf []) rfl (hown0.alloc _) ⟨W1.heap.size, 0, none⟩ 1 1 [.int .u8 34] rfl rfl ?c1 ?c2 ?c3 ?c4 ?c5 ?_)
      case c1 => exact one_new _ _
      case c2 => first | rfl | (intro u hu; simp at hu; subst hu; rfl)
      case c3 => unfold maxLen; omega
      case c4 => omega
      case c5 => first | omega | (simp; omega)
      intro v1 w1 hown1 hgrow1 _
      obtain ⟨own1, bel1, siz1⟩ := own_snoc (d := 34) (x := 34) rfl S1 B1.out hown0 hown1 hgrow1
      have L1 := Lib.hid bel1
      clear hown1 hgrow1 hown0 bel1 B1
      go_wp2_with fail
      go_loopw [4, 5] (fun v ii wr => ∃ (pos : Nat) (acc : List UInt8), ii = .int .i64 (pos : Int) ∧ pos ≤ s.size ∧ wr.ownsRow w.heap.size 5 1 v acc.length (cellsOf acc) ∧ Hid (Below w.heap.size w wr) ∧ w.heap.size ≤ wr.heap.size ∧ Hid (acc ++ bodyG (s.data.toList.drop pos) = 34 :: bodyG s.data.toList) ∧ Hid (Lib.validD (s.data.toList.drop pos) = true) ∧ Hid (acc.length ≤ 6 * pos + 1)) (fun _ ii _ => s.size - (intOf ii).toNat)
      case atStart => exact ⟨0, [34], rfl, Nat.zero_le _, own1, L1.out, siz1, rfl, HV.out, by show 1 ≤ _; omega⟩
      case round =>
        obtain ⟨pos, acc, rfl, hpos, hown, hbel, hsz, hacc, hval, hal⟩ := hrel
        by_cases hp : pos < s.size
        · have hne : s.data.toList.drop pos ≠ [] := by
            intro h
            have := congrArg List.length h
            rw [List.length_drop, HL.out] at this; simp at this; omega
          have hv := valid_step _ hne
          have hst := bodyG_step _ hne
          have hle := fun w0 => refLetter_any (s.extract pos s.size) w0 (by rw [Lib.size_eq, extr_list, List.length_drop, HL.out]; omega)
          rw [extr_list] at hle
          have hpz : (pos : Int) < (s.size : Int) := by omega
          cases hL : letterG (s.data.toList.drop pos) with
          | none => rw [hL, hval.out] at hv; cases hv
          | some x =>
            obtain ⟨n, k⟩ := x
            obtain ⟨i1, i2, i3, i4, i5, i6, i7⟩ := letter_facts hL
            rw [List.length_drop, HL.out] at i4
            rw [hL, hval.out] at hv
            simp only [List.drop_drop] at hv
            rw [i7] at hst
            simp only [List.drop_drop] at hst
            rw [hL] at hle
            change ∀ w0, Calls Tryz.prog 87 #[.string (s.extract pos s.size)] w0 fun e w' => e = .returned (.tuple #[.int .i64 (n : Int), .int .i64 (k : Int)]) ∧ Below w0.heap.size w0 w' at hle
            have HV2 := Lib.hid hv.symm
            have HS := Lib.hid hst
            have HCL := Lib.hid (canonG_len n)
            have hk0 : ((k : Int) == 0) = false := by simp; omega
            have hpk : (pos : Int) + (k : Int) ≤ (s.size : Int) := by omega
            have hpk2 : (pos : Int) ≤ (pos : Int) + (k : Int) := by omega
            have hpk3 : ((pos : Int) + (k : Int)).toNat = pos + k := by omega
            have hpk4 : (0 : Int) ≤ (pos : Int) + (k : Int) := by omega
            have hw1 : IntKind.i64.wrap ((pos : Int) + (k : Int)) = (pos : Int) + (k : Int) := IntWalk.i64_in _ (by omega)
            have HXE := Lib.hid (show (s.extract pos (pos + k)).data.toList = enc n by rw [Lib.extract_data, i5]; simp)
            have hsh := fun w0 => refShort_any n w0
            obtain ⟨z, hz⟩ : ∃ z : Int, z = (n : Int) := ⟨_, rfl⟩
            obtain ⟨c, hc⟩ : ∃ c : Int, c = (shortG n : Int) := ⟨_, rfl⟩
            rw [← hz] at hle hsh
            rw [← hc] at hsh
            have hsl : shortG n < 128 := by
              unfold shortG
              repeat' split
              all_goals omega
            clear hL hv hst hne hval i5 i6 i7
            by_cases hs0 : 0 < shortG n
            · have hc0 : 0 < c := by omega
              have HTL := Lib.hid (show (⟨#[92, UInt8.ofNat (shortG n)]⟩ : ByteArray).data.toList = canonG n by unfold canonG; rw [if_pos hs0])
              have hcv := fun w0 => conv2 w0 92 (UInt8.ofNat (shortG n)) 92 c rfl (by rw [UInt8.toNat_ofNat', hc]; omega)
              have HTS := Lib.hid (show (⟨#[92, UInt8.ofNat (shortG n)]⟩ : ByteArray).size = 2 from rfl)
              clear hs0 hz hc i1 hsl HXE
              go_wp2_with (go_at_call 87; refine (hle _).mono ?_)
              first | rintro e W2 rfl b2 | rintro e W2 ⟨rfl, b2⟩
              have own3 := own_below hown b2
              have B3 := Lib.hid (btr hbel.out (Nat.le_refl _) b2)
              have S3 := b2.size
              have S4 : w.heap.size ≤ W2.heap.size := by omega
              clear b2 hown hbel
              go_wp2_with (first
                | (go_at_call 100; refine (hsh _).mono ?_; (first | rintro e v rfl hv | rintro e v ⟨rfl, hv⟩); rw [hv]; clear hv)
                | (at_builtin; refine Lib.wpList_append_own_string _ rfl (.tmp 54) (.tmp 55) 54 9 rfl w.heap.size 5 i0 Tryz.underlying54 Tryz.underlying9 hi hz0 hz1 hz2 _ acc.length (cellsOf acc) rfl (own3.alloc _) ⟨#[92, UInt8.ofNat (shortG n)]⟩ rfl ?c1 ?c2 ?c3 ?_))
              case c1 => unfold maxLen; rw [HTS.out]; have := hal.out; omega
              case c2 => rw [HTS.out]; have := hal.out; omega
              case c3 => simp; omega
              intro v2 w2 hown2 hgrow2 _
              obtain ⟨own2, bel2, siz2⟩ := own_str (by simp; omega) (B3.out.alloc S4 _) (own3.alloc _) hown2 hgrow2
              rw [HTL.out] at own2
              have L2 := Lib.hid bel2
              clear hown2 hgrow2 own3 bel2
              go_wp2_with fail
              go_roundw
              case rel =>
                refine ⟨pos + k, acc ++ canonG n, by go_num, by omega, own2, L2.out, siz2, ?_, HV2.out, ?_⟩
                · show acc ++ canonG n ++ _ = _
                  rw [← hacc.out, HS.out, List.append_assoc]
                · show (acc ++ canonG n).length ≤ _
                  have := HCL.out
                  have := hal.out
                  rw [List.length_append]; omega
              case measure => simp [intOf]; omega
            · by_cases hct : n < 32 ∨ n = 127
              · have hc0 : ¬ 0 < c := by omega
                have HTL := Lib.hid (show (⟨#[92, 117, 48, 48, hByte (n / 16), hByte (n % 16)]⟩ : ByteArray).data.toList = canonG n by unfold canonG; rw [if_neg hs0, if_pos hct])
                have hhx := fun w0 => refHexs_any n w0 (by omega)
                rw [hexN_four n (by omega), ← hz] at hhx
                change ∀ w0, Calls Tryz.prog 101 #[.int .i64 z] w0 fun e w' => e = .returned (.string ⟨#[48, 48, hByte (n / 16), hByte (n % 16)]⟩) ∧ Below w0.heap.size w0 w' at hhx
                have hadd := fun w0 : World => add_u w0 (hByte (n / 16)) (hByte (n % 16))
                have HTS := Lib.hid (show (⟨#[92, 117, 48, 48, hByte (n / 16), hByte (n % 16)]⟩ : ByteArray).size = 6 from rfl)
                have key : z < 32 ∨ (¬ z < 32 ∧ (z == 127) = true) := by
                  rcases hct with h | h
                  · left; omega
                  · right; refine ⟨by omega, by simp; omega⟩
                clear hs0 hz hc i1 hsl HXE hct
                rcases key with k1 | ⟨k1, k2⟩
                all_goals
                  go_wp2_with (go_at_call 87; refine (hle _).mono ?_)
                  first | rintro e W2 rfl b2 | rintro e W2 ⟨rfl, b2⟩
                  have own3 := own_below hown b2
                  have B3 := Lib.hid (btr hbel.out (Nat.le_refl _) b2)
                  have S3 := b2.size
                  have S4 : w.heap.size ≤ W2.heap.size := by omega
                  clear b2 hown hbel
                  go_wp2_with (first
                    | (go_at_call 100; refine (hsh _).mono ?_; (first | rintro e v rfl hv | rintro e v ⟨rfl, hv⟩); rw [hv]; clear hv)
                    | (go_at_call 101; refine (hhx _).mono ?_))
                  first | rintro e W3 rfl b3 | rintro e W3 ⟨rfl, b3⟩
                  have own4 := own_below own3 b3
                  have B4 := Lib.hid (btr B3.out (Nat.le_refl _) b3)
                  have S5 := b3.size
                  have S6 : w.heap.size ≤ W3.heap.size := by omega
                  clear b3 own3
                  go_wp2_with (at_builtin; refine Lib.wpList_append_own_string _ rfl (.tmp 54) (.tmp 55) 54 9 rfl w.heap.size 5 i0 Tryz.underlying54 Tryz.underlying9 hi hz0 hz1 hz2 _ acc.length (cellsOf acc) rfl own4 ⟨#[92, 117, 48, 48, hByte (n / 16), hByte (n % 16)]⟩ rfl ?c1 ?c2 ?c3 ?_)
                  case c1 => unfold maxLen; rw [HTS.out]; have := hal.out; omega
                  case c2 => rw [HTS.out]; have := hal.out; omega
                  case c3 => exact S6
                  intro v2 w2 hown2 hgrow2 _
                  obtain ⟨own2, bel2, siz2⟩ := own_str S6 B4.out own4 hown2 hgrow2
                  rw [HTL.out] at own2
                  have L2 := Lib.hid bel2
                  clear hown2 hgrow2 own4 bel2
                  go_wp2_with fail
                  go_roundw
                  case rel =>
                    refine ⟨pos + k, acc ++ canonG n, by go_num, by omega, own2, L2.out, siz2, ?_, HV2.out, ?_⟩
                    · show acc ++ canonG n ++ _ = _
                      rw [← hacc.out, HS.out, List.append_assoc]
                    · show (acc ++ canonG n).length ≤ _
                      have := HCL.out
                      have := hal.out
                      rw [List.length_append]; omega
                  case measure => simp [intOf]; omega
              · have hc0 : ¬ 0 < c := by omega
                have HTL := Lib.hid (show (s.extract pos (pos + k)).data.toList = canonG n by rw [HXE.out]; unfold canonG; rw [if_neg hs0, if_neg hct])
                have HTS := Lib.hid (show (s.extract pos (pos + k)).size ≤ 4 by rw [Lib.size_eq, HXE.out]; exact (enc_len n).2)
                have k1 : ¬ z < 32 := by omega
                have k2 : (z == 127) = false := by simp; omega
                clear hs0 hz hc i1 hsl HXE hct
                go_wp2_with (go_at_call 87; refine (hle _).mono ?_)
                first | rintro e W2 rfl b2 | rintro e W2 ⟨rfl, b2⟩
                have own3 := own_below hown b2
                have B3 := Lib.hid (btr hbel.out (Nat.le_refl _) b2)
                have S3 := b2.size
                have S4 : w.heap.size ≤ W2.heap.size := by omega
                clear b2 hown hbel
                go_wp2_with (first
                  | (go_at_call 100; refine (hsh _).mono ?_; (first | rintro e v rfl hv | rintro e v ⟨rfl, hv⟩); rw [hv]; clear hv)
                  | (at_builtin; refine Lib.wpList_append_own_string _ rfl (.tmp 54) (.tmp 55) 54 9 rfl w.heap.size 5 i0 Tryz.underlying54 Tryz.underlying9 hi hz0 hz1 hz2 _ acc.length (cellsOf acc) rfl own3 (s.extract pos (pos + k)) rfl ?c1 ?c2 ?c3 ?_))
                case c1 => unfold maxLen; have := HTS.out; have := hal.out; omega
                case c2 => have := HTS.out; have := hal.out; omega
                case c3 => exact S4
                intro v2 w2 hown2 hgrow2 _
                rw [show min (pos + k) s.size - pos = (s.extract pos (pos + k)).size by simp] at hown2
                obtain ⟨own2, bel2, siz2⟩ := own_str S4 B3.out own3 hown2 hgrow2
                rw [HTL.out] at own2
                have L2 := Lib.hid bel2
                clear hown2 hgrow2 own3 bel2
                go_wp2_with fail
                go_roundw
                case rel =>
                  refine ⟨pos + k, acc ++ canonG n, by go_num, by omega, own2, L2.out, siz2, ?_, HV2.out, ?_⟩
                  · show acc ++ canonG n ++ _ = _
                    rw [← hacc.out, HS.out, List.append_assoc]
                  · show (acc ++ canonG n).length ≤ _
                    have := HCL.out
                    have := hal.out
                    rw [List.length_append]; omega
                case measure => simp [intOf]; omega
        · have HE := Lib.hid (show acc ++ [34] = quoteG s.data.toList by
            have := hacc.out
            rw [List.drop_of_length_le (by rw [HL.out]; omega), bodyG_nil, List.append_nil] at this
            rw [this]; rfl)
          have hpz : ¬ (pos : Int) < (s.size : Int) := by omega
          clear hacc hval
          go_wp2_with (at_builtin; refine wpList_append_own _ rfl (.tmp 60) (.tmp 61) 54 rfl w.heap.size 5 i0 (.int .u8 0) 1 1 Tryz.underlying54 hi hz0 hz1 hz2 rfl (by decide) _ acc.length (cellsOf acc) rfl (hown.alloc _) ⟨wr.heap.size, 0, none⟩ 1 1 [.int .u8 34] rfl rfl ?c1 ?c2 ?c3 ?c4 ?c5 ?_)
          try (case c1 => exact one_new _ _)
          case c2 => first | rfl | (intro u hu; simp at hu; subst hu; rfl)
          case c3 => unfold maxLen; have := hal.out; omega
          case c4 => have := hal.out; omega
          case c5 => first | omega | (simp; omega)
          intro v2 w2 hown2 hgrow2 _
          obtain ⟨own2, bel2, siz2⟩ := own_snoc (d := 34) (x := 34) rfl hsz hbel.out hown hown2 hgrow2
          have L2 := Lib.hid bel2
          have hcv := conv_own own2
          rw [HE.out] at hcv
          clear hown2 hgrow2 hown bel2
          go_wp2_with fail
          go_ret2
          exact ⟨by rw [HQ.out]; rfl, L2.out⟩
end Go.Proofs.YtaniebkfgkhgoaaGreatDoor

namespace Go.Proofs.YtaniebkfgkhgoaaGreatDoor
open Go.RowKit
set_option linter.unusedVariables false
set_option maxRecDepth 100000

theorem named_none (c : UInt8) (t : List UInt8) (h1 : ¬ 0 < namedG c.toNat) (h2 : c ≠ 117) : escG (92 :: c :: t) = none := by
  simp only [escG]
  rw [if_neg h1]
  unfold longG
  simp only [unitG]
  rw [if_neg (fun h => h2 h.2)]
theorem named_cases (c : Nat) (h : 0 < namedG c) : (c = 34 ∧ namedG c = 34) ∨ (c = 92 ∧ namedG c = 92) ∨ (c = 47 ∧ namedG c = 47) ∨ (c = 98 ∧ namedG c = 8) ∨ (c = 102 ∧ namedG c = 12) ∨ (c = 110 ∧ namedG c = 10) ∨ (c = 114 ∧ namedG c = 13) ∨ (c = 116 ∧ namedG c = 9) := by
  unfold namedG at h ⊢
  repeat' split at h
  all_goals first | omega | (rename_i hh; subst hh; simp) | simp_all
theorem named_not (c : Nat) (h : ¬ 0 < namedG c) : c ≠ 34 ∧ c ≠ 92 ∧ c ≠ 47 ∧ c ≠ 98 ∧ c ≠ 102 ∧ c ≠ 110 ∧ c ≠ 114 ∧ c ≠ 116 := by
  unfold namedG at h
  repeat' split at h
  all_goals first | (exfalso; omega) | omega

theorem named_cases8 (c : UInt8) (h : 0 < namedG c.toNat) : c = 34 ∨ c = 92 ∨ c = 47 ∨ c = 98 ∨ c = 102 ∨ c = 110 ∨ c = 114 ∨ c = 116 := by
  have e : ∀ d : UInt8, c.toNat = d.toNat → c = d := fun d h => UInt8.toNat_inj.1 h
  rcases named_cases _ h with ⟨h, _⟩ | ⟨h, _⟩ | ⟨h, _⟩ | ⟨h, _⟩ | ⟨h, _⟩ | ⟨h, _⟩ | ⟨h, _⟩ | ⟨h, _⟩
  · exact .inl (e 34 h)
  · exact .inr (.inl (e 92 h))
  · exact .inr (.inr (.inl (e 47 h)))
  · exact .inr (.inr (.inr (.inl (e 98 h))))
  · exact .inr (.inr (.inr (.inr (.inl (e 102 h)))))
  · exact .inr (.inr (.inr (.inr (.inr (.inl (e 110 h))))))
  · exact .inr (.inr (.inr (.inr (.inr (.inr (.inl (e 114 h)))))))
  · exact .inr (.inr (.inr (.inr (.inr (.inr (.inr (e 116 h)))))))

set_option maxHeartbeats 4000000 in
theorem refOne_any (s : ByteArray) (a : UInt8) (t : List UInt8) (hd : s.data.toList = a :: t) (ha : a ≠ 34) (w : World) (hs : s.size ≤ 1099511627776) :
    Calls Tryz.prog 74 #[.string s] w fun e w' => e = .returned (letS (oneG (a :: t))) ∧ Below w.heap.size w w' := by
  have hl : s.data.toList.length = s.size := by simp
  have hp0 : 0 < s.size := by rw [hd] at hl; simp at hl; omega
  have h0 : s[0]'hp0 = a := at_list s 0 hp0 a (by rw [hd]; rfl)
  have hz0 : (0 : Int) < (s.size : Int) := by omega
  obtain ⟨O, hO⟩ : ∃ O, O = letS (oneG (a :: t)) := ⟨_, rfl⟩
  rw [← hO]
  have HO := Lib.hid hO
  clear hO
  by_cases hb : a = 92
  · subst hb
    have hone : oneG (92 :: t) = escG (92 :: t) := by simp only [oneG, if_true]
    cases t with
    | nil =>
      have HE := Lib.hid (show O = .tuple #[.int .i64 0, .int .i64 0] by rw [HO.out, hone]; rfl)
      have k1 : (s.size : Int) < 2 := by rw [hd] at hl; simp at hl; omega
      clear hl hd
      go_enter Tryz.func74, Tryz.ntmps74
      go_wp2_with fail
      go_ret2
      exact ⟨by rw [HE.out]; rfl, Below.refl _ _⟩
    | cons c t =>
      have h1n : 1 < s.size := by rw [hd] at hl; simp at hl; omega
      have hs1 : s[1]'h1n = c := at_list s 1 h1n c (by rw [hd]; rfl)
      have k1 : ¬ (s.size : Int) < 2 := by omega
      by_cases hn : 0 < namedG c.toNat
      · have HE0 := Lib.hid (show O = .tuple #[.int .i64 (namedG c.toNat : Int), .int .i64 2] by
          rw [HO.out, hone]; simp only [escG]; rw [if_pos hn]; rfl)
        have hcs := named_cases8 c hn
        clear hl hd hone hn
        rcases hcs with rfl | rfl | rfl | rfl | rfl | rfl | rfl | rfl
        all_goals
          go_enter Tryz.func74, Tryz.ntmps74
          go_wp2_with fail
          go_ret2
          exact ⟨by rw [HE0.out]; rfl, Below.refl _ _⟩
      · by_cases h117 : c = 117
        · subst h117
          have HE := Lib.hid (show O = letS (longG s.data.toList) by
            rw [HO.out, hone, hd]; simp only [escG]; rw [if_neg hn])
          have hlo := fun w0 => refLong_any s t hd w0 hs
          obtain ⟨z, q, hzq⟩ : ∃ z q : Int, letS (longG s.data.toList) = .tuple #[.int .i64 z, .int .i64 q] := by
            cases longG s.data.toList with
            | none => exact ⟨0, 0, rfl⟩
            | some x => exact ⟨_, _, rfl⟩
          rw [hzq] at hlo
          have HE2 := Lib.hid (HE.out.trans hzq)
          clear hl hd hone hn hzq HE
          go_enter Tryz.func74, Tryz.ntmps74
          go_wp2_with (go_at_call 96; refine (hlo _).mono ?_; (first | rintro e v rfl hv | rintro e v ⟨rfl, hv⟩); rw [hv]; clear hv)
          go_ret2
          exact ⟨by rw [HE2.out]; rfl, Below.refl _ _⟩
        · have HE := Lib.hid (show O = .tuple #[.int .i64 0, .int .i64 0] by rw [HO.out, hone, named_none c t hn h117]; rfl)
          obtain ⟨n1, n2, n3, n4, n5, n6, n7, n8⟩ := named_not _ hn
          have n9 : c.toNat ≠ 117 := fun h => h117 (UInt8.toNat_inj.1 h)
          have f1 : ((c.toNat : Int) == 34) = false := by simp; omega
          have f2 : ((c.toNat : Int) == 92) = false := by simp; omega
          have f3 : ((c.toNat : Int) == 47) = false := by simp; omega
          have f4 : ((c.toNat : Int) == 98) = false := by simp; omega
          have f5 : ((c.toNat : Int) == 102) = false := by simp; omega
          have f6 : ((c.toNat : Int) == 110) = false := by simp; omega
          have f7 : ((c.toNat : Int) == 114) = false := by simp; omega
          have f8 : ((c.toNat : Int) == 116) = false := by simp; omega
          have f9 : ((c.toNat : Int) == 117) = false := by simp; omega
          clear hl hd hone hn n1 n2 n3 n4 n5 n6 n7 n8 n9 h117
          go_enter Tryz.func74, Tryz.ntmps74
          go_wp2_with fail
          go_ret2
          exact ⟨by rw [HE.out]; rfl, Below.refl _ _⟩
  · have g1 : ((a.toNat : Int) == 92) = false := by
      have : a.toNat ≠ 92 := fun h => hb (UInt8.toNat_inj.1 h)
      simp; omega
    have g2 : ((a.toNat : Int) != 92) = true := by rw [bne, g1]; rfl
    have hone : oneG (a :: t) = (match letterG (a :: t) with | none => none | some (n, k) => if n < 32 then none else some (n, k)) := by
      simp only [oneG]; rw [if_neg hb]
      cases letterG (a :: t) <;> rfl
    have hle := fun w0 => refLetter_any s w0 hs
    rw [hd] at hle
    cases hL : letterG (a :: t) with
    | none =>
      have HE := Lib.hid (show O = .tuple #[.int .i64 0, .int .i64 0] by rw [HO.out, hone, hL]; rfl)
      rw [hL] at hle
      change ∀ w0, Calls Tryz.prog 87 #[.string s] w0 fun e w' => e = .returned (.tuple #[.int .i64 0, .int .i64 0]) ∧ Below w0.heap.size w0 w' at hle
      clear hl hd hone hL ha hb
      go_enter Tryz.func74, Tryz.ntmps74
      go_wp2_with (go_at_call 87; refine (hle _).mono ?_)
      first | rintro e W1 rfl b1 | rintro e W1 ⟨rfl, b1⟩
      have B1 := Lib.hid b1
      clear b1
      go_wp2_with fail
      go_ret2
      exact ⟨by rw [HE.out]; rfl, B1.out⟩
    | some x =>
      obtain ⟨n, k⟩ := x
      have hk := (letter_facts hL).2.1
      rw [hL] at hle
      obtain ⟨z, hz⟩ : ∃ z : Int, z = (n : Int) := ⟨_, rfl⟩
      change ∀ w0, Calls Tryz.prog 87 #[.string s] w0 fun e w' => e = .returned (.tuple #[.int .i64 (n : Int), .int .i64 (k : Int)]) ∧ Below w0.heap.size w0 w' at hle
      rw [← hz] at hle
      have hk0 : ((k : Int) == 0) = false := by simp; omega
      have hn34 : n ≠ 34 := by
        intro h
        have := (letter_low hL (by omega)).1
        exact ha (UInt8.toNat_inj.1 (by rw [this, h]; rfl))
      have hz34 : (z == 34) = false := by simp; omega
      by_cases h32 : n < 32
      · have HE := Lib.hid (show O = .tuple #[.int .i64 0, .int .i64 0] by rw [HO.out, hone, hL]; simp only; rw [if_pos h32]; rfl)
        have hz32 : z < 32 := by omega
        clear hl hd hone hL ha hb hz hn34 h32
        go_enter Tryz.func74, Tryz.ntmps74
        go_wp2_with (go_at_call 87; refine (hle _).mono ?_)
        first | rintro e W1 rfl b1 | rintro e W1 ⟨rfl, b1⟩
        have B1 := Lib.hid b1
        clear b1
        go_wp2_with fail
        go_ret2
        exact ⟨by rw [HE.out]; rfl, B1.out⟩
      · have HE := Lib.hid (show O = .tuple #[.int .i64 z, .int .i64 (k : Int)] by rw [HO.out, hone, hL]; simp only; rw [if_neg h32, hz]; rfl)
        have hz32 : ¬ z < 32 := by omega
        clear hl hd hone hL ha hb hz hn34 h32
        go_enter Tryz.func74, Tryz.ntmps74
        go_wp2_with (go_at_call 87; refine (hle _).mono ?_)
        first | rintro e W1 rfl b1 | rintro e W1 ⟨rfl, b1⟩
        have B1 := Lib.hid b1
        clear b1
        go_wp2_with fail
        go_ret2
        exact ⟨by rw [HE.out]; rfl, B1.out⟩
end Go.Proofs.YtaniebkfgkhgoaaGreatDoor

namespace Go.Proofs.YtaniebkfgkhgoaaGreatDoor
open Go.RowKit
set_option linter.unusedVariables false
set_option maxRecDepth 100000

set_option maxHeartbeats 4000000 in
theorem refUnquote_any (s : ByteArray) (w : World) (hs : s.size ≤ 500000) :
    Calls Tryz.prog 50 #[.string s] w fun e w' => e = .returned (unqS (unqG s.data.toList)) ∧ Below w.heap.size w w' := by
  have hl : s.data.toList.length = s.size := by simp
  obtain ⟨O, hO⟩ : ∃ O, O = unqS (unqG s.data.toList) := ⟨_, rfl⟩
  rw [← hO]
  have HO := Lib.hid hO
  clear hO
  cases hd : s.data.toList with
  | nil =>
    have HE := Lib.hid (show O = .tuple #[.string ⟨#[]⟩, .int .i64 0, .int .i64 2] by rw [HO.out, hd]; rfl)
    have hb : (s.toList == []) = true := by rw [toList_eq, hd]; rfl
    clear hl hd
    go_enter Tryz.func50, Tryz.ntmps50
    go_wp2_with fail
    go_ret3
    exact ⟨by rw [HE.out]; rfl, Below.refl _ _⟩
  | cons a0 t0 =>
    have hb : (s.toList == []) = false := by rw [toList_eq, hd]; rfl
    have hp0 : 0 < s.size := by rw [hd] at hl; simp at hl; omega
    have h0 : s[0]'hp0 = a0 := at_list s 0 hp0 a0 (by rw [hd]; rfl)
    have hz0 : (0 : Int) < (s.size : Int) := by omega
    by_cases ha0 : a0 = 34
    · subst ha0
      have HQ0 := Lib.hid (show unqGo (t0.length + 1) (s.data.toList.drop 1) [] 1 = unqG s.data.toList by rw [hd]; simp only [unqG, List.drop_succ_cons, List.drop_zero]; rw [if_pos trivial])
      have HL0 := Lib.hid (show (s.data.toList.drop 1).length < t0.length + 1 by rw [hd]; simp)
      have HL := Lib.hid hl
      obtain ⟨i0, hi, hz0', hz1, hz2⟩ := info_parts info8
      clear hl hd
      go_enter Tryz.func50, Tryz.ntmps50
      go_wp2_with fail
      go_loopw [5, 6] (fun v ii wr => ∃ (pos f : Nat) (acc : List UInt8), ii = .int .i64 (pos : Int) ∧ 1 ≤ pos ∧ pos ≤ s.size ∧ wr.ownsRow w.heap.size 5 1 v acc.length (cellsOf acc) ∧ Hid (Below w.heap.size w wr) ∧ w.heap.size ≤ wr.heap.size ∧ Hid (unqGo f (s.data.toList.drop pos) acc pos = unqG s.data.toList) ∧ Hid ((s.data.toList.drop pos).length < f) ∧ Hid (acc.length ≤ 4 * pos)) (fun _ ii _ => s.size - (intOf ii).toNat)
      case atStart => exact ⟨1, t0.length + 1, [], rfl, Nat.le_refl _, hp0, World.ownsRow_nil _ _ _ _, Below.refl _ _, Nat.le_refl _, HQ0.out, HL0.out, by show 0 ≤ _; omega⟩
      case round =>
        obtain ⟨pos, f, acc, rfl, hp1, hpos, hown, hbel, hsz, hun, hfu, hal⟩ := hrel
        by_cases hp : pos < s.size
        · cases hd : s.data.toList.drop pos with
          | nil =>
            exfalso
            have := congrArg List.length hd
            rw [List.length_drop, HL.out] at this; simp at this; omega
          | cons a t =>
            have hsp : s[pos]'hp = a := by
              apply at_list s pos hp a
              have h2 : (s.data.toList.drop pos)[0]? = some a := by rw [hd]; rfl
              rw [List.getElem?_drop, Nat.add_zero] at h2; exact h2
            have hpz : (pos : Int) < (s.size : Int) := by omega
            by_cases ha : a = 34
            · subst ha
              have HE := Lib.hid (show O = .tuple #[.string ⟨acc.toArray⟩, .int .i64 ((pos : Int) + 1), .int .i64 0] by
                rw [HO.out, ← hun.out, unq_stop hd hfu.out]
                show Value.tuple #[_, .int .i64 (((pos + 1 : Nat) : Int)), _] = _
                rw [show ((pos + 1 : Nat) : Int) = (pos : Int) + 1 by omega])
              have hcv := conv_own hown
              have hw1 : IntKind.i64.wrap ((pos : Int) + 1) = (pos : Int) + 1 := IntWalk.i64_in _ (by omega)
              have hw2 : IntKind.i64.wrap ((pos : Int) - 1) = (pos : Int) - 1 := IntWalk.i64_in _ (by omega)
              have hw3 : ¬ 524288 < (pos : Int) - 1 := by omega
              clear hd hun hfu
              go_wp2_with fail
              go_ret3
              exact ⟨by rw [HE.out]; rfl, hbel.out⟩
            · have g1 : ((a.toNat : Int) == 34) = false := by
                have : a.toNat ≠ 34 := fun h => ha (UInt8.toNat_inj.1 h)
                simp; omega
              have HX : (s.extract pos s.size).data.toList = a :: t := (extr_list s pos).trans hd
              have hon := fun w0 => refOne_any (s.extract pos s.size) a t HX ha w0 (by rw [Lib.size_eq, HX, ← hd, List.length_drop, HL.out]; omega)
              cases ho : oneG (a :: t) with
              | none =>
                have HE := Lib.hid (show O = .tuple #[.string ⟨#[]⟩, .int .i64 0, .int .i64 2] by rw [HO.out, ← hun.out, unq_bad hd hfu.out ha ho]; rfl)
                rw [ho] at hon
                change ∀ w0, Calls Tryz.prog 74 #[.string (s.extract pos s.size)] w0 fun e w' => e = .returned (.tuple #[.int .i64 0, .int .i64 0]) ∧ Below w0.heap.size w0 w' at hon
                clear hd hun hfu HX ho ha
                go_wp2_with (go_at_call 74; refine (hon _).mono ?_)
                first | rintro e W1 rfl b1 | rintro e W1 ⟨rfl, b1⟩
                have B1 := Lib.hid (btr hbel.out (Nat.le_refl _) b1)
                clear b1
                go_wp2_with fail
                go_ret3
                exact ⟨by rw [HE.out]; rfl, B1.out⟩
              | some x =>
                obtain ⟨n, k⟩ := x
                obtain ⟨il, ik1, ik2⟩ := oneG_facts ho
                obtain ⟨f', hu1, hu2⟩ := unq_on hd hfu.out ha ho (acc := acc)
                have HU1 := Lib.hid (hu1.symm.trans hun.out)
                have HU2 := Lib.hid hu2
                have hk3 : pos + k ≤ s.size := by rw [← hd, List.length_drop, HL.out] at ik2; omega
                rw [ho] at hon
                change ∀ w0, Calls Tryz.prog 74 #[.string (s.extract pos s.size)] w0 fun e w' => e = .returned (.tuple #[.int .i64 (n : Int), .int .i64 (k : Int)]) ∧ Below w0.heap.size w0 w' at hon
                have hby := fun w0 => refBytes_any n il w0
                have hk0 : ((k : Int) == 0) = false := by simp; omega
                have hkw : IntKind.i64.wrap ((pos : Int) + (k : Int)) = (pos : Int) + (k : Int) := IntWalk.i64_in _ (by omega)
                obtain ⟨z, hz⟩ : ∃ z : Int, z = (n : Int) := ⟨_, rfl⟩
                rw [← hz] at hon hby
                obtain ⟨T, hT⟩ : ∃ T : ByteArray, (⟨(enc n).toArray⟩ : ByteArray) = T := ⟨_, rfl⟩
                rw [hT] at hby
                have HTL := Lib.hid (show T.data.toList = enc n by rw [← hT])
                have HTS := Lib.hid (show T.size ≤ 4 by rw [Lib.size_eq, HTL.out]; exact (enc_len n).2)
                clear hd hun hfu HX ho ha hu1 hu2 il ik2 hz hT
                go_wp2_with (go_at_call 74; refine (hon _).mono ?_)
                first | rintro e W1 rfl b1 | rintro e W1 ⟨rfl, b1⟩
                have own1 := own_below hown b1
                have B1 := Lib.hid (btr hbel.out (Nat.le_refl _) b1)
                have S1 : w.heap.size ≤ W1.heap.size := by have := b1.size; omega
                clear b1 hown hbel
                go_wp2_with (go_at_call 75; refine (hby _).mono ?_)
                first | rintro e W2 rfl b2 | rintro e W2 ⟨rfl, b2⟩
                have own2 := own_below own1 b2
                have B2 := Lib.hid (btr B1.out (Nat.le_refl _) b2)
                have S2 : w.heap.size ≤ W2.heap.size := by have := b2.size; omega
                clear b2 own1 B1
                go_wp2_with (at_builtin; refine Lib.wpList_append_own_string _ rfl (.tmp 40) (.tmp 42) 54 9 rfl w.heap.size 5 i0 Tryz.underlying54 Tryz.underlying9 hi hz0' hz1 hz2 _ acc.length (cellsOf acc) rfl own2 T rfl ?c1 ?c2 ?c3 ?_)
                case c1 => unfold maxLen; have := HTS.out; have := hal.out; omega
                case c2 => have := HTS.out; have := hal.out; omega
                case c3 => exact S2
                intro v3 w3 hown3 hgrow3 _
                obtain ⟨own3, bel3, siz3⟩ := own_str S2 B2.out own2 hown3 hgrow3
                rw [HTL.out] at own3
                have L3 := Lib.hid bel3
                clear hown3 hgrow3 own2 bel3
                go_wp2_with fail
                go_roundw
                case rel =>
                  refine ⟨pos + k, f', acc ++ enc n, by go_num, by omega, hk3, own3, L3.out, siz3, HU1.out, HU2.out, ?_⟩
                  show (acc ++ enc n).length ≤ _
                  have := (enc_len n).2
                  have := hal.out
                  rw [List.length_append]; omega
                case measure => simp [intOf]; omega
        · have HE := Lib.hid (show O = .tuple #[.string ⟨#[]⟩, .int .i64 0, .int .i64 2] by
            rw [HO.out, ← hun.out, unq_end (List.drop_of_length_le (by rw [HL.out]; omega))]; rfl)
          have hpz : ¬ (pos : Int) < (s.size : Int) := by omega
          clear hun hfu
          go_wp2_with fail
          go_ret3
          exact ⟨by rw [HE.out]; rfl, hbel.out⟩
    · have HE := Lib.hid (show O = .tuple #[.string ⟨#[]⟩, .int .i64 0, .int .i64 2] by rw [HO.out, hd]; simp only [unqG]; rw [if_neg ha0]; rfl)
      have g1 : ((a0.toNat : Int) == 34) = false := by
        have : a0.toNat ≠ 34 := fun h => ha0 (UInt8.toNat_inj.1 h)
        simp; omega
      have g2 : ((a0.toNat : Int) != 34) = true := by rw [bne, g1]; rfl
      clear hl hd ha0
      go_enter Tryz.func50, Tryz.ntmps50
      go_wp2_with fail
      go_ret3
      exact ⟨by rw [HE.out]; rfl, Below.refl _ _⟩
end Go.Proofs.YtaniebkfgkhgoaaGreatDoor

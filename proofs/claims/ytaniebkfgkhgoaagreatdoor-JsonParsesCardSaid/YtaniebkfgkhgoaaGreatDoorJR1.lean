/- Layer 5's reference: digits, blanks, sign. Layer 5's reference: sign. Layer 5's reference: number. A number's text, told both ways: the bytes of numbers that begin a text are one; the longest one that begins it. What a whole text tells, by descent, with the longest number that begins a text. -/
import Derived.Test.YtaniebkfgkhgoaaGreatDoorJ3
import Derived.Test.YtaniebkfgkhgoaaGreatDoorJ0
import Derived.WalkKit
import Derived.LoopTactic
import Derived.IntWalk
import Derived.OwnWalk
import Derived.Lib.Hide
import Derived.Handy
import Derived.Deep.DeepCutAuto
namespace Go.Proofs.YtaniebkfgkhgoaaGreatDoor
open Go.RowKit
set_option linter.unusedVariables false
set_option maxRecDepth 100000

/-- How many decimal digits begin a text. -/
def digN : List UInt8 → Nat
  | [] => 0
  | a :: t => if 48 ≤ a.toNat ∧ a.toNat ≤ 57 then digN t + 1 else 0
theorem digN_le : ∀ l, digN l ≤ l.length
  | [] => Nat.le_refl _
  | a :: t => by
    have := digN_le t
    unfold digN
    split
    · simp; omega
    · simp
theorem rdrop_at (s : ByteArray) (k : Nat) (h : k < s.size) : s.data.toList.drop k = s[k] :: s.data.toList.drop (k + 1) := by
  rw [List.drop_eq_getElem_cons (by simpa using h)]; rfl

set_option maxHeartbeats 2000000 in
theorem digits_any (s : ByteArray) (w : World) (hs : s.size ≤ 1099511627776) :
    Calls Tryz.prog 73 #[.string s] w fun e w' => e = .returned (.int .i64 (digN s.data.toList)) ∧ w' = w := by
  go_enter Tryz.func73, Tryz.ntmps73
  go_wp2_with fail
  go_loopw [3] (fun v wr => ∃ k : Nat, v = .int .i64 k ∧ k ≤ s.size ∧ Hid (k + digN (s.data.toList.drop k) = digN s.data.toList) ∧ wr = w) (fun v _ => s.size - (intOf v).toNat)
  case atStart => exact ⟨0, rfl, Nat.zero_le _, Lib.hid (by simp), rfl⟩
  case round =>
    obtain ⟨k, rfl, hk, HE, rfl⟩ := hrel
    by_cases hlt : k < s.size
    · have hd := rdrop_at s k hlt
      have hz : (k : Int) < (s.size : Int) := by omega
      by_cases h1 : 48 ≤ s[k].toNat
      · by_cases h2 : s[k].toNat ≤ 57
        · have HE2 : Hid (k + 1 + digN (s.data.toList.drop (k + 1)) = digN s.data.toList) := Lib.hid (by
            rw [← HE.out, hd]; simp only [digN]; rw [if_pos ⟨h1, h2⟩]; omega)
          have z1 : (48 : Int) ≤ (s[k].toNat : Int) := by omega
          have z2 : (s[k].toNat : Int) ≤ 57 := by omega
          clear hd
          go_wp2_with fail
          go_roundw
          case rel => exact ⟨k + 1, by go_num, by omega, HE2, trivial⟩
          case measure => simp [intOf]; omega
        · have HE2 : Hid (digN s.data.toList = k) := Lib.hid (by
            rw [← HE.out, hd]; simp only [digN]; rw [if_neg (by omega)]; omega)
          have z1 : (48 : Int) ≤ (s[k].toNat : Int) := by omega
          have z2 : ¬ (s[k].toNat : Int) ≤ 57 := by omega
          clear hd
          go_wp2_with fail
          go_ret
          exact ⟨by rw [HE2.out]; rfl, rfl⟩
      · have HE2 : Hid (digN s.data.toList = k) := Lib.hid (by
          rw [← HE.out, hd]; simp only [digN]; rw [if_neg (by omega)]; omega)
        have z1 : ¬ (48 : Int) ≤ (s[k].toNat : Int) := by omega
        clear hd
        go_wp2_with fail
        go_ret
        exact ⟨by rw [HE2.out]; rfl, rfl⟩
    · have hz : ¬ (k : Int) < (s.size : Int) := by omega
      have HE2 : Hid (digN s.data.toList = k) := Lib.hid (by
        rw [← HE.out, List.drop_of_length_le (by simp; omega)]; simp [digN])
      go_wp2_with fail
      go_ret
      exact ⟨by rw [HE2.out]; rfl, rfl⟩

def isBl (a : UInt8) : Bool := a.toNat == 32 || a.toNat == 9 || a.toNat == 10 || a.toNat == 13
theorem sk_cons (a : UInt8) (t : List UInt8) : sk (a :: t) = if isBl a = true then sk t else a :: t := by
  have h : [32, 9, 10, 13].contains a = isBl a := by
    have e : ∀ b : UInt8, (a == b) = (a.toNat == b.toNat) := fun b => by
      rw [Bool.eq_iff_iff]; simp [← UInt8.toNat_inj]
    simp only [List.contains_cons, List.contains_nil, Bool.or_false, e, isBl, Bool.or_assoc]
    rfl
  unfold sk Lib.trimLeftS
  rw [List.dropWhile_cons, h]
theorem sk_nil : sk [] = [] := rfl
theorem sk_idem (l : List UInt8) : sk (sk l) = sk l := by
  induction l with
  | nil => rfl
  | cons a t ih =>
    rw [sk_cons]
    split
    · exact ih
    · rename_i h; rw [sk_cons, if_neg h]

set_option maxHeartbeats 2000000 in
theorem blanks_any (l : List UInt8) (w : World) (hs : l.length ≤ 1099511627776) :
    Calls Tryz.prog 47 #[.string (bs l)] w fun e w' => e = .returned (.string (bs (sk l))) ∧ w' = w := by
  go_enter Tryz.func47, Tryz.ntmps47
  go_wp2_with fail
  go_loopw [0] (fun v wr => ∃ r : List UInt8, v = .string (bs r) ∧ Hid (r.length ≤ l.length) ∧ Hid (sk r = sk l) ∧ wr = w) (fun v _ => match v with | .string s => s.size | _ => 0)
  case atStart => exact ⟨l, rfl, Lib.hid (Nat.le_refl _), Lib.hid rfl, rfl⟩
  case round =>
    obtain ⟨r, rfl, HL, HE, rfl⟩ := hrel
    cases r with
    | nil =>
      have HE2 : Hid (sk l = []) := Lib.hid (by rw [← HE.out, sk_nil])
      have he : (bs []).toList = [] := by rw [Lib.toList_data]; rfl
      have he2 : (bs []).toList.isEmpty = true := by rw [he]; rfl
      go_wp2_with fail
      go_ret
      exact ⟨by rw [HE2.out]; rfl, rfl⟩
    | cons a t =>
      have he : ¬ (bs (a :: t)).toList = [] := by rw [Lib.toList_data]; simp [bs]
      have he2 : (bs (a :: t)).toList.isEmpty = false := by rw [Lib.toList_data]; rfl
      have hsz : (0 : Int) < ((bs (a :: t)).size : Int) := by rw [bs_size]; simp
      have hsz0 : 0 < (bs (a :: t)).size := by rw [bs_size]; simp
      have HX0 : (bs (a :: t))[0] = a := rfl
      have HX : Hid ((bs (a :: t)).extract 1 (bs (a :: t)).size = bs t) := Lib.hid (bs_extract (a :: t) 1 (by simp))
      have hz1 : (1 : Int) ≤ ((bs (a :: t)).size : Int) := by omega
      by_cases h32 : a.toNat = 32
      · have n32 : (((bs (a :: t))[0].toNat : Int) == 32) = true := by rw [HX0]; simp; omega
        clear HX0
        go_wp2_with fail
        rw [HX.out]
        go_roundw
        case rel => exact ⟨t, rfl, Lib.hid (by have := HL.out; simp at this; omega), Lib.hid (by rw [← HE.out, sk_cons, if_pos (by simp [isBl, h32])]), trivial⟩
        case measure => show (bs t).size < (bs (a :: t)).size; rw [bs_size, bs_size]; simp
      · skip
        by_cases h9 : a.toNat = 9
        · have n32 : (((bs (a :: t))[0].toNat : Int) == 32) = false := by rw [HX0]; simp; omega
          have n9 : (((bs (a :: t))[0].toNat : Int) == 9) = true := by rw [HX0]; simp; omega
          clear HX0
          go_wp2_with fail
          rw [HX.out]
          go_roundw
          case rel => exact ⟨t, rfl, Lib.hid (by have := HL.out; simp at this; omega), Lib.hid (by rw [← HE.out, sk_cons, if_pos (by simp [isBl, h9])]), trivial⟩
          case measure => show (bs t).size < (bs (a :: t)).size; rw [bs_size, bs_size]; simp
        · skip
          by_cases h10 : a.toNat = 10
          · have n32 : (((bs (a :: t))[0].toNat : Int) == 32) = false := by rw [HX0]; simp; omega
            have n9 : (((bs (a :: t))[0].toNat : Int) == 9) = false := by rw [HX0]; simp; omega
            have n10 : (((bs (a :: t))[0].toNat : Int) == 10) = true := by rw [HX0]; simp; omega
            clear HX0
            go_wp2_with fail
            rw [HX.out]
            go_roundw
            case rel => exact ⟨t, rfl, Lib.hid (by have := HL.out; simp at this; omega), Lib.hid (by rw [← HE.out, sk_cons, if_pos (by simp [isBl, h10])]), trivial⟩
            case measure => show (bs t).size < (bs (a :: t)).size; rw [bs_size, bs_size]; simp
          · skip
            by_cases h13 : a.toNat = 13
            · have n32 : (((bs (a :: t))[0].toNat : Int) == 32) = false := by rw [HX0]; simp; omega
              have n9 : (((bs (a :: t))[0].toNat : Int) == 9) = false := by rw [HX0]; simp; omega
              have n10 : (((bs (a :: t))[0].toNat : Int) == 10) = false := by rw [HX0]; simp; omega
              have n13 : (((bs (a :: t))[0].toNat : Int) == 13) = true := by rw [HX0]; simp; omega
              clear HX0
              go_wp2_with fail
              rw [HX.out]
              go_roundw
              case rel => exact ⟨t, rfl, Lib.hid (by have := HL.out; simp at this; omega), Lib.hid (by rw [← HE.out, sk_cons, if_pos (by simp [isBl, h13])]), trivial⟩
              case measure => show (bs t).size < (bs (a :: t)).size; rw [bs_size, bs_size]; simp
            · skip
              have n32 : (((bs (a :: t))[0].toNat : Int) == 32) = false := by rw [HX0]; simp; omega
              have n9 : (((bs (a :: t))[0].toNat : Int) == 9) = false := by rw [HX0]; simp; omega
              have n10 : (((bs (a :: t))[0].toNat : Int) == 10) = false := by rw [HX0]; simp; omega
              have n13 : (((bs (a :: t))[0].toNat : Int) == 13) = false := by rw [HX0]; simp; omega
              clear HX0
              have HE2 : Hid (sk l = a :: t) := Lib.hid (by rw [← HE.out, sk_cons, if_neg (by simp [isBl, h32, h9, h10, h13])])
              go_wp2_with fail
              go_ret
              exact ⟨by rw [HE2.out]; rfl, rfl⟩
end Go.Proofs.YtaniebkfgkhgoaaGreatDoor

namespace Go.Proofs.YtaniebkfgkhgoaaGreatDoor
open Go.RowKit
set_option linter.unusedVariables false
set_option maxRecDepth 100000

/-- A text without a sign that begins it, and without blanks. -/
def signG (l c : List UInt8) : List UInt8 × Bool := if Lib.hasPrefix (sk l) c = true then (sk ((sk l).drop c.length), true) else (sk l, false)

set_option maxHeartbeats 2000000 in
theorem sign_any (l c : List UInt8) (w : World) (hs : l.length ≤ 1099511627776) (hc : c.length ≤ 1099511627776) :
    Calls Tryz.prog 48 #[.string (bs l), .string (bs c)] w fun e w' => e = .returned (.tuple #[.string (bs (signG l c).1), .bool (signG l c).2]) ∧ w' = w := by
  have hl := sk_len l
  have CB := Lib.hid (blanks_any l w hs)
  have CB2 := Lib.hid (blanks_any ((sk l).drop c.length) w (by simp; omega))
  have HP := Lib.hasPrefix_raw (bs (sk l)) (bs c)
  have H1 : Hid ((bs (sk l)).size = (sk l).length) := Lib.hid (bs_size _)
  have H2 : Hid ((bs c).size = c.length) := Lib.hid (bs_size _)
  have HX : Hid (c.length ≤ (sk l).length → (bs (sk l)).extract (bs c).size (bs (sk l)).size = bs ((sk l).drop c.length)) := Lib.hid fun h => by rw [bs_size c]; exact bs_extract _ _ h
  rw [bs_list, bs_list] at HP
  unfold signG
  have hcz : (0 : Int) ≤ ((bs c).size : Int) := by omega
  by_cases hp : Lib.hasPrefix (sk l) c = true
  · rw [if_pos hp]
    rw [hp, Bool.and_eq_true, decide_eq_true_eq] at HP
    obtain ⟨g1, g2⟩ := HP
    have g3 : ¬ ((bs (sk l)).size : Int) < ((bs c).size : Int) := by omega
    have HY := HX.out (by have := H1.out; have := H2.out; omega)
    clear hp hl HX
    generalize bs (sk l) = S at *
    go_enter Tryz.func48, Tryz.ntmps48
    go_wp2_with (first | (go_at_call 47; (with_reducible refine CB.out.mono ?_); rintro e w9 ⟨rfl, rfl⟩) | (go_at_call 47; (with_reducible refine CB2.out.mono ?_); rintro e w9 ⟨rfl, rfl⟩))
    go_ret2
    exact ⟨rfl, rfl⟩
  · rw [if_neg hp]
    rw [Bool.not_eq_true] at hp
    rw [hp] at HP
    clear hl HX CB2
    by_cases hlt : (bs (sk l)).size < (bs c).size
    · have g3 : ((bs (sk l)).size : Int) < ((bs c).size : Int) := by omega
      clear HP hp
      generalize bs (sk l) = S at *
      go_enter Tryz.func48, Tryz.ntmps48
      go_wp2_with (first | (go_at_call 47; (with_reducible refine CB.out.mono ?_); rintro e w9 ⟨rfl, rfl⟩))
      go_ret2
      exact ⟨rfl, rfl⟩
    · have g3 : ¬ ((bs (sk l)).size : Int) < ((bs c).size : Int) := by omega
      have g1 : (bs c).size ≤ (bs (sk l)).size := by omega
      rw [decide_eq_true g1, Bool.true_and] at HP
      clear hp
      generalize bs (sk l) = S at *
      go_enter Tryz.func48, Tryz.ntmps48
      go_wp2_with (first | (go_at_call 47; (with_reducible refine CB.out.mono ?_); rintro e w9 ⟨rfl, rfl⟩))
      go_ret2
      exact ⟨rfl, rfl⟩
end Go.Proofs.YtaniebkfgkhgoaaGreatDoor

namespace Go.Proofs.YtaniebkfgkhgoaaGreatDoor
open Go.RowKit
set_option linter.unusedVariables false
set_option maxRecDepth 100000

theorem at_in {s : ByteArray} {k : Nat} (h : k < s.size) : s.data.toList[k]? = some s[k] := by
  rw [List.getElem?_eq_getElem (by simpa using h)]; rfl
theorem at_out {s : ByteArray} {k : Nat} (h : s.size ≤ k) : s.data.toList[k]? = none := by
  rw [List.getElem?_eq_none (by simpa using h)]
/-- Is it this byte that stands there? -/
def atB (l : List UInt8) (k : Nat) (n : UInt8) : Bool := decide (l[k]? = some n)
theorem atB_in {s : ByteArray} {l : List UInt8} (hl : l = s.data.toList) {k : Nat} (h : k < s.size) (n : UInt8) (z : Int) (hz : z = (n.toNat : Int)) : ((s[k].toNat : Int) == z) = atB l k n := by
  subst hz
  unfold atB
  rw [hl, at_in h, Bool.eq_iff_iff, beq_iff_eq, decide_eq_true_eq, Option.some.injEq, ← UInt8.toNat_inj]
  omega
theorem atB_out {s : ByteArray} {l : List UInt8} (hl : l = s.data.toList) {k : Nat} (h : ¬ k < s.size) (n : UInt8) : atB l k n = false := by
  unfold atB
  rw [hl, at_out (by omega)]
  simp
/-- Where a number's digits begin. -/
def nm0 (l : List UInt8) : Nat := bif atB l 0 45 then 1 else 0
/-- How many digits it has ahead of a period. -/
def nm1 (l : List UInt8) (a : Nat) : Nat := bif atB l a 48 then 1 else digN (l.drop a)
/-- Where its fraction ends. -/
def nm2 (l : List UInt8) (a : Nat) : Nat := bif atB l a 46 && decide (0 < digN (l.drop (a + 1))) then a + 1 + digN (l.drop (a + 1)) else a
/-- Where the digits behind its e begin. -/
def nm3 (l : List UInt8) (a : Nat) : Nat := bif atB l a 43 || atB l a 45 then a + 1 else a
/-- Where it ends. -/
def nm4 (l : List UInt8) (a : Nat) : Nat := bif (atB l a 101 || atB l a 69) && decide (0 < digN (l.drop (nm3 l (a + 1)))) then nm3 l (a + 1) + digN (l.drop (nm3 l (a + 1))) else a
/-- How many bytes the longest number's text has that begins a text. -/
def nmG (l : List UInt8) : Nat := if digN (l.drop (nm0 l)) = 0 then 0 else nm4 l (nm2 l (nm0 l + nm1 l (nm0 l)))

theorem atB_lt {l : List UInt8} {k : Nat} {n : UInt8} (h : atB l k n = true) : k < l.length := by
  unfold atB at h
  rw [decide_eq_true_eq] at h
  have := List.getElem?_eq_some_iff.1 h
  exact this.1
theorem dig_le (l : List UInt8) (k : Nat) (h : k ≤ l.length) : k + digN (l.drop k) ≤ l.length := by
  have := digN_le (l.drop k); simp at this; omega
theorem nm0_le (l : List UInt8) : nm0 l ≤ l.length := by
  unfold nm0
  cases h : atB l 0 45 with
  | true => have := atB_lt h; simp; omega
  | false => simp
theorem nm1_le (l : List UInt8) (a : Nat) (h : a ≤ l.length) : a + nm1 l a ≤ l.length := by
  unfold nm1
  cases h1 : atB l a 48 with
  | true => have := atB_lt h1; simp; omega
  | false => simpa using dig_le l a h
theorem nm2_le (l : List UInt8) (a : Nat) (h : a ≤ l.length) : nm2 l a ≤ l.length := by
  unfold nm2
  cases h1 : atB l a 46 with
  | true =>
    have h2 := atB_lt h1
    have h3 := dig_le l (a + 1) h2
    cases decide (0 < digN (l.drop (a + 1))) <;> simp <;> omega
  | false => simpa using h
theorem nm3_le (l : List UInt8) (a : Nat) (h : a ≤ l.length) : nm3 l a ≤ l.length := by
  unfold nm3
  cases h1 : atB l a 43 with
  | true => have := atB_lt h1; simp; omega
  | false =>
    cases h2 : atB l a 45 with
    | true => have := atB_lt h2; simp; omega
    | false => simpa using h

set_option maxHeartbeats 4000000 in
theorem number_any (s : ByteArray) (w : World) (hs : s.size ≤ 1099511627776) :
    Calls Tryz.prog 49 #[.string s] w fun e w' => e = .returned (.int .i64 (nmG s.data.toList)) ∧ w' = w := by
  have CD := Lib.hid (fun (k : Nat) (h : k ≤ s.size) => (show Calls Tryz.prog 73 #[.string (s.extract k s.size)] w fun e w' => e = .returned (.int .i64 (digN (s.data.toList.drop k))) ∧ w' = w by
    have := digits_any (s.extract k s.size) w (by simp; omega)
    rw [show (s.extract k s.size).data.toList = s.data.toList.drop k by rw [Lib.extract_data, List.take_of_length_le (by simp)]] at this
    exact this))
  obtain ⟨l, hl⟩ : ∃ l, l = s.data.toList := ⟨_, rfl⟩
  rw [← hl] at CD ⊢
  have HL := Lib.hid hl
  clear hl
  obtain ⟨R, hR⟩ : ∃ R, R = nmG l := ⟨_, rfl⟩
  rw [← hR]
  have HR := Lib.hid hR
  clear hR
  go_enter Tryz.func49, Tryz.ntmps49
  go_upto_region 2 with fail
  obtain ⟨B, hB⟩ : ∃ B, B = atB l 0 45 := ⟨_, rfl⟩
  have HB := Lib.hid hB
  clear hB
  go_cut [17] (fun c wx => c = .bool B ∧ wx = w)
  case first =>
    by_cases h0 : 0 < s.size
    · have hz : (0 : Int) < (s.size : Int) := by omega
      go_wp2_with fail
      go_meet
      exact ⟨by rw [HB.out, ← atB_in HL.out h0 45 45 rfl], rfl⟩
    · have hz : ¬ (0 : Int) < (s.size : Int) := by omega
      go_wp2_with fail
      go_meet
      exact ⟨by rw [HB.out, atB_out HL.out h0], rfl⟩
  case rest =>
    obtain ⟨rfl, rfl⟩ := hcut
    go_upto_if 17 with fail
    go_cut [3] (fun v wx => v = .int .i64 (nm0 l) ∧ wx = wc)
    case first =>
      have HN : Hid (nm0 l = bif B then 1 else 0) := Lib.hid (by rw [HB.out]; rfl)
      cases B <;> (go_wp2_with fail; go_meet; exact ⟨by rw [HN.out]; rfl, rfl⟩)
    case rest =>
      obtain ⟨rfl, rfl⟩ := hcut
      clear HB
      have h0 : nm0 l ≤ s.size := by have := nm0_le l; rw [HL.out] at this ⊢; simpa using this
      have CD0 := CD.out (nm0 l) h0
      have HG : Hid (R = if digN (l.drop (nm0 l)) = 0 then 0 else nm4 l (nm2 l (nm0 l + nm1 l (nm0 l)))) := Lib.hid HR.out
      have hn1 : nm0 l + nm1 l (nm0 l) ≤ s.size := by have := nm1_le l (nm0 l) (nm0_le l); rw [HL.out] at this ⊢; simpa using this
      have hd1 : nm0 l + digN (l.drop (nm0 l)) ≤ s.size := by have := dig_le l (nm0 l) (nm0_le l); rw [HL.out] at this ⊢; simpa using this
      have HN1 : Hid (nm1 l (nm0 l) = bif atB l (nm0 l) 48 then 1 else digN (l.drop (nm0 l))) := Lib.hid rfl
      have hzl : (nm0 l : Int) ≤ (s.size : Int) := by omega
      generalize nm0 l = a0 at *
      generalize hdd : digN (l.drop a0) = d0 at *
      clear hdd
      by_cases hd0 : d0 = 0
      · subst hd0
        have HG2 := Lib.hid (HG.out.trans (if_pos rfl))
        go_wp2_with (go_at_call 73; (with_reducible refine CD0.mono ?_); rintro e w9 ⟨rfl, rfl⟩)
        go_ret
        exact ⟨by rw [HG2.out]; rfl, rfl⟩
      · have HG2 := Lib.hid (HG.out.trans (if_neg hd0))
        clear HG
        have hdz : ¬ (d0 : Int) = 0 := by omega
        have hdz2 : ((d0 : Int) == 0) = false := by simp; omega
        have ha : a0 < s.size := by omega
        have haz : (a0 : Int) < (s.size : Int) := by omega
        go_upto_if 29 with (go_at_call 73; (with_reducible refine CD0.mono ?_); rintro e w9 ⟨rfl, rfl⟩)
        rw [atB_in HL.out ha 48 48 rfl]
        generalize atB l a0 48 = B2 at *
        go_cut [4] (fun v wx => v = .int .i64 (nm1 l a0) ∧ wx = w9)
        case first => cases B2 <;> (go_wp2_with fail; go_meet; exact ⟨by rw [HN1.out]; rfl, rfl⟩)
        case rest =>
          obtain ⟨rfl, rfl⟩ := hcut
          clear HN1 CD0 hdz2
          have w1 : IntKind.i64.wrap ((a0 : Int) + (nm1 l a0 : Int)) = ((a0 + nm1 l a0 : Nat) : Int) := by rw [IntWalk.i64_in _ (by omega)]; omega
          generalize a0 + nm1 l a0 = a1 at *
          generalize nm1 l a0 = n1 at *
          clear hdz hd0 hd1 ha haz h0 hzl
          have h1z : (a1 : Int) ≤ (s.size : Int) := by omega
          go_upto_region 10 with fail
          obtain ⟨B3, hB3⟩ : ∃ B, B = atB l a1 46 := ⟨_, rfl⟩
          have HB3 := Lib.hid hB3
          clear hB3
          go_cut [42] (fun c wx => c = .bool B3 ∧ wx = wc)
          case first =>
            by_cases h0 : a1 < s.size
            · have hz : (a1 : Int) < (s.size : Int) := by omega
              go_wp2_with fail
              go_meet
              exact ⟨by rw [HB3.out, ← atB_in HL.out h0 46 46 rfl], rfl⟩
            · have hz : ¬ (a1 : Int) < (s.size : Int) := by omega
              go_wp2_with fail
              go_meet
              exact ⟨by rw [HB3.out, atB_out HL.out h0], rfl⟩
          case rest =>
            obtain ⟨rfl, rfl⟩ := hcut
            go_upto_if 42 with fail
            go_cut [3] (fun v wx => v = .int .i64 (nm2 l a1) ∧ wx = wc)
            case first =>
              cases B3 with
              | false =>
                have HN : Hid (nm2 l a1 = a1) := Lib.hid (by unfold nm2; rw [← HB3.out]; rfl)
                go_wp2_with fail
                go_meet
                exact ⟨by rw [HN.out], rfl⟩
              | true =>
                have hlt : a1 < s.size := by have := atB_lt HB3.out.symm; rw [HL.out] at this; simpa using this
                have CD1 := CD.out (a1 + 1) hlt
                have HN : Hid (nm2 l a1 = bif decide (0 < digN (l.drop (a1 + 1))) then a1 + 1 + digN (l.drop (a1 + 1)) else a1) := Lib.hid (by unfold nm2; rw [← HB3.out]; rfl)
                have hdl : a1 + 1 + digN (l.drop (a1 + 1)) ≤ s.size := by have := dig_le l (a1 + 1) (by rw [HL.out]; simp; omega); rw [HL.out] at this ⊢; simpa using this
                have w2 : IntKind.i64.wrap ((a1 : Int) + 1) = ((a1 + 1 : Nat) : Int) := by rw [IntWalk.i64_in _ (by omega)]; omega
                have w3 : IntKind.i64.wrap (((a1 + 1 : Nat) : Int) + (digN (l.drop (a1 + 1)) : Int)) = ((a1 + 1 + digN (l.drop (a1 + 1)) : Nat) : Int) := by rw [IntWalk.i64_in _ (by omega)]; omega
                generalize digN (l.drop (a1 + 1)) = d2 at *
                generalize a1 + 1 + d2 = a2 at *
                have h1s : ((a1 + 1 : Nat) : Int) ≤ (s.size : Int) := by omega
                generalize a1 + 1 = a1s at *
                by_cases h2 : 0 < d2
                · have h2z : (0 : Int) < (d2 : Int) := by omega
                  have HN' : Hid (nm2 l a1 = a2) := Lib.hid (by rw [HN.out, decide_eq_true h2]; rfl)
                  go_wp2_with (go_at_call 73; (with_reducible refine CD1.mono ?_); rintro e w8 ⟨rfl, rfl⟩)
                  go_meet
                  exact ⟨by rw [HN'.out], rfl⟩
                · have h2z : ¬ (0 : Int) < (d2 : Int) := by omega
                  have HN' : Hid (nm2 l a1 = a1) := Lib.hid (by rw [HN.out, decide_eq_false h2]; rfl)
                  go_wp2_with (go_at_call 73; (with_reducible refine CD1.mono ?_); rintro e w8 ⟨rfl, rfl⟩)
                  go_meet
                  exact ⟨by rw [HN'.out], rfl⟩
            case rest =>
              obtain ⟨rfl, rfl⟩ := hcut
              have hn2 : nm2 l a1 ≤ s.size := by have := nm2_le l a1 (by rw [HL.out]; simp; omega); rw [HL.out] at this ⊢; simpa using this
              generalize nm2 l a1 = a2 at *
              clear HB3 hn1 h1z w1
              go_upto_region 14 with fail
              obtain ⟨B4, hB⟩ : ∃ B, B = (atB l a2 101 || atB l a2 69) := ⟨_, rfl⟩
              have HB4 := Lib.hid hB
              clear hB
              go_cut [69] (fun c wx => c = .bool B4 ∧ wx = wc)
              case first =>
                by_cases h0 : a2 < s.size
                · have hz : (a2 : Int) < (s.size : Int) := by omega
                  by_cases hb : s[a2].toNat = 101
                  · have e1 : ((s[a2].toNat : Int) == 101) = true := by simp; omega
                    have HT : Hid (B4 = true) := Lib.hid (by rw [HB4.out, ← atB_in HL.out h0 101 101 rfl, e1]; rfl)
                    clear hb
                    go_wp2_with fail
                    go_meet
                    exact ⟨by rw [HT.out], rfl⟩
                  · have e1 : ((s[a2].toNat : Int) == 101) = false := by simp; omega
                    have HT : Hid (B4 = ((s[a2].toNat : Int) == 69)) := Lib.hid (by rw [HB4.out, ← atB_in HL.out h0 101 101 rfl, e1, ← atB_in HL.out h0 69 69 rfl]; rfl)
                    clear hb
                    go_wp2_with fail
                    go_meet
                    exact ⟨by rw [HT.out], rfl⟩
                · have hz : ¬ (a2 : Int) < (s.size : Int) := by omega
                  go_wp2_with fail
                  go_meet
                  exact ⟨by rw [HB4.out, atB_out HL.out h0, atB_out HL.out h0]; rfl, rfl⟩
              case rest =>
                obtain ⟨rfl, rfl⟩ := hcut
                go_upto_if 69 with fail
                go_cut [3] (fun v wx => v = .int .i64 (nm4 l a2) ∧ wx = wc)
                case first =>
                  cases B4 with
                  | false =>
                    have HN : Hid (nm4 l a2 = a2) := Lib.hid (by unfold nm4; rw [← HB4.out]; rfl)
                    go_wp2_with fail
                    go_meet
                    exact ⟨by rw [HN.out], rfl⟩
                  | true =>
                    have hlt : a2 < s.size := by
                      have h4 := HB4.out.symm
                      rw [Bool.or_eq_true] at h4
                      have := h4.elim atB_lt atB_lt
                      rw [HL.out] at this; simpa using this
                    have HN4 : Hid (nm4 l a2 = bif decide (0 < digN (l.drop (nm3 l (a2 + 1)))) then nm3 l (a2 + 1) + digN (l.drop (nm3 l (a2 + 1))) else a2) := Lib.hid (by unfold nm4; rw [← HB4.out]; rfl)
                    clear HB4
                    have w2 : IntKind.i64.wrap ((a2 : Int) + 1) = ((a2 + 1 : Nat) : Int) := by rw [IntWalk.i64_in _ (by omega)]; omega
                    have ha3 : a2 + 1 ≤ s.size := hlt
                    generalize a2 + 1 = a3 at *
                    go_upto_region 16 with fail
                    obtain ⟨B5, hB⟩ : ∃ B, B = (atB l a3 43 || atB l a3 45) := ⟨_, rfl⟩
                    have HB5 := Lib.hid hB
                    clear hB
                    go_cut [87] (fun c wx => c = .bool B5 ∧ wx = wc)
                    case first =>
                      by_cases h0 : a3 < s.size
                      · have hz : (a3 : Int) < (s.size : Int) := by omega
                        by_cases hb : s[a3].toNat = 43
                        · have e1 : ((s[a3].toNat : Int) == 43) = true := by simp; omega
                          have HT : Hid (B5 = true) := Lib.hid (by rw [HB5.out, ← atB_in HL.out h0 43 43 rfl, e1]; rfl)
                          clear hb
                          go_wp2_with fail
                          go_meet
                          exact ⟨by rw [HT.out], rfl⟩
                        · have e1 : ((s[a3].toNat : Int) == 43) = false := by simp; omega
                          have HT : Hid (B5 = ((s[a3].toNat : Int) == 45)) := Lib.hid (by rw [HB5.out, ← atB_in HL.out h0 43 43 rfl, e1, ← atB_in HL.out h0 45 45 rfl]; rfl)
                          clear hb
                          go_wp2_with fail
                          go_meet
                          exact ⟨by rw [HT.out], rfl⟩
                      · have hz : ¬ (a3 : Int) < (s.size : Int) := by omega
                        go_wp2_with fail
                        go_meet
                        exact ⟨by rw [HB5.out, atB_out HL.out h0, atB_out HL.out h0]; rfl, rfl⟩
                    case rest =>
                      obtain ⟨rfl, rfl⟩ := hcut
                      go_upto_if 87 with fail
                      go_cut [6] (fun v wx => v = .int .i64 (nm3 l a3) ∧ wx = wc)
                      case first =>
                        cases B5 with
                        | false =>
                          have HN5 : Hid (nm3 l a3 = a3) := Lib.hid (by unfold nm3; rw [← HB5.out]; rfl)
                          go_wp2_with fail
                          go_meet
                          exact ⟨by rw [HN5.out], rfl⟩
                        | true =>
                          have HN5 : Hid (nm3 l a3 = a3 + 1) := Lib.hid (by unfold nm3; rw [← HB5.out]; rfl)
                          have w5 : IntKind.i64.wrap ((a3 : Int) + 1) = ((a3 + 1 : Nat) : Int) := by rw [IntWalk.i64_in _ (by omega)]; omega
                          generalize a3 + 1 = a3s at *
                          go_wp2_with fail
                          go_meet
                          exact ⟨by rw [HN5.out], rfl⟩
                      case rest =>
                        obtain ⟨rfl, rfl⟩ := hcut
                        have hn3 : nm3 l a3 ≤ s.size := by have := nm3_le l a3 (by rw [HL.out]; simp; omega); rw [HL.out] at this ⊢; simpa using this
                        have hdl : nm3 l a3 + digN (l.drop (nm3 l a3)) ≤ s.size := by have := dig_le l (nm3 l a3) (by rw [HL.out] at hn3 ⊢; simpa using hn3); rw [HL.out] at this ⊢; simpa using this
                        have CD1 := CD.out (nm3 l a3) hn3
                        generalize nm3 l a3 = k3 at *
                        have w3 : IntKind.i64.wrap ((k3 : Int) + (digN (l.drop k3) : Int)) = ((k3 + digN (l.drop k3) : Nat) : Int) := by rw [IntWalk.i64_in _ (by omega)]; omega
                        generalize digN (l.drop k3) = d3 at *
                        generalize k3 + d3 = a4 at *
                        have h3z : (k3 : Int) ≤ (s.size : Int) := by omega
                        by_cases h2 : 0 < d3
                        · have h2z : (0 : Int) < (d3 : Int) := by omega
                          have HN' : Hid (nm4 l a2 = a4) := Lib.hid (by rw [HN4.out, decide_eq_true h2]; rfl)
                          go_wp2_with (go_at_call 73; (with_reducible refine CD1.mono ?_); rintro e w8 ⟨rfl, rfl⟩)
                          go_meet
                          exact ⟨by rw [HN'.out], rfl⟩
                        · have h2z : ¬ (0 : Int) < (d3 : Int) := by omega
                          have HN' : Hid (nm4 l a2 = a2) := Lib.hid (by rw [HN4.out, decide_eq_false h2]; rfl)
                          go_wp2_with (go_at_call 73; (with_reducible refine CD1.mono ?_); rintro e w8 ⟨rfl, rfl⟩)
                          go_meet
                          exact ⟨by rw [HN'.out], rfl⟩
                case rest =>
                  obtain ⟨rfl, rfl⟩ := hcut
                  have HE : Hid (nm4 l a2 = R) := Lib.hid HG2.out.symm
                  generalize nm4 l a2 = r at *
                  go_wp2_with fail
                  go_ret
                  exact ⟨by rw [← HE.out]; rfl, rfl⟩
end Go.Proofs.YtaniebkfgkhgoaaGreatDoor

namespace Go.Proofs.YtaniebkfgkhgoaaGreatDoor
open Go.Lib
set_option linter.unusedVariables false

def isDg (a : UInt8) : Bool := decide (48 ≤ a.toNat ∧ a.toNat ≤ 57)
theorem digN_cons (a : UInt8) (t : List UInt8) : digN (a :: t) = if isDg a = true then digN t + 1 else 0 := by
  unfold isDg
  simp only [digN, decide_eq_true_eq]
theorem fig_c (a : UInt8) : [48, 49, 50, 51, 52, 53, 54, 55, 56, 57].contains a = isDg a := by
  have e : ∀ b : UInt8, (a == b) = decide (a.toNat = b.toNat) := fun b => by
    rw [Bool.eq_iff_iff]; simp [← UInt8.toNat_inj]
  simp only [List.contains_cons, List.contains_nil, Bool.or_false, e, isDg]
  rw [Bool.eq_iff_iff]
  simp only [Bool.or_eq_true, decide_eq_true_eq]
  show a.toNat = 48 ∨ a.toNat = 49 ∨ a.toNat = 50 ∨ a.toNat = 51 ∨ a.toNat = 52 ∨ a.toNat = 53 ∨ a.toNat = 54 ∨ a.toNat = 55 ∨ a.toNat = 56 ∨ a.toNat = 57 ↔ _
  omega
theorem figR_eq (l : List UInt8) : figR l = l.drop (digN l) := by
  unfold figR trimLeftS
  induction l with
  | nil => rfl
  | cons a t ih =>
    rw [List.dropWhile_cons, fig_c, digN_cons]
    split
    · exact ih
    · rfl
theorem figL_eq (l : List UInt8) : figL l = l.take (digN l) := by
  unfold figL
  rw [figR_eq, List.length_drop]
  have := digN_le l
  congr 1
  omega
theorem figL_nil (l : List UInt8) : figL l = [] ↔ digN l = 0 := by
  rw [figL_eq, ← List.length_eq_zero_iff, List.length_take]
  have := digN_le l
  omega
theorem dig_at (x : List UInt8) (a k : Nat) (h : k < digN (x.drop a)) : ∃ c, x[a + k]? = some c ∧ isDg c = true := by
  have hg : ∀ (z : List UInt8) (k : Nat), k < digN z → ∃ c, z[k]? = some c ∧ isDg c = true := by
    intro z
    induction z with
    | nil => intro k h; simp [digN] at h
    | cons a t ih =>
      intro k h
      rw [digN_cons] at h
      split at h
      · rename_i hd
        cases k with
        | zero => exact ⟨a, rfl, hd⟩
        | succ k => obtain ⟨c, h1, h2⟩ := ih k (by omega); exact ⟨c, by simpa using h1, h2⟩
      · omega
  obtain ⟨c, h1, h2⟩ := hg _ _ h
  rw [List.getElem?_drop] at h1
  exact ⟨c, h1, h2⟩
theorem dig_not {x : List UInt8} {a k : Nat} (h : k < digN (x.drop a)) {n : UInt8} (hn : isDg n = false) : atB x (a + k) n = false := by
  obtain ⟨c, h1, h2⟩ := dig_at x a k h
  unfold atB
  rw [h1]
  refine decide_eq_false fun e => ?_
  cases e
  rw [hn] at h2; cases h2
theorem pre_at (x : List UInt8) (k : Nat) (n : UInt8) : hasPrefix (x.drop k) [n] = atB x k n := by
  unfold hasPrefix atB
  cases h : x.drop k with
  | nil =>
    have : x[k]? = none := by rw [List.getElem?_eq_none_iff]; exact List.drop_eq_nil_iff.1 h
    rw [this]; rfl
  | cons a t =>
    have : x[k]? = some a := by
      have := congrArg (·[0]?) h
      simpa [List.getElem?_drop] using this
    rw [this, Bool.eq_iff_iff]
    simp only [List.isPrefixOf, Bool.and_true, beq_iff_eq, decide_eq_true_eq, Option.some.injEq]
    exact eq_comm
theorem rhead_at (x : List UInt8) (k : Nat) (n : UInt8) : (x.drop k).head? = some n ↔ atB x k n = true := by
  unfold atB
  rw [decide_eq_true_eq, List.head?_drop]
theorem atB_two {x : List UInt8} {k : Nat} {n m : UInt8} (h : atB x k n = true) (hnm : n ≠ m) : atB x k m = false := by
  unfold atB at *
  rw [decide_eq_true_eq] at h
  rw [h]
  exact decide_eq_false fun e => hnm (Option.some.inj e)
theorem drop_nil_iff (x : List UInt8) {a : Nat} (h : a ≤ x.length) : x.drop a = [] ↔ a = x.length := by
  rw [List.drop_eq_nil_iff]; omega

theorem trim0 (x : List UInt8) : trimPrefix x [45] = x.drop (nm0 x) := by
  unfold trimPrefix nm0
  have := pre_at x 0 45
  rw [List.drop_zero] at this
  rw [this]
  cases atB x 0 45 <;> rfl
theorem signR_eq (x : List UInt8) (k : Nat) : signR (x.drop k) = x.drop (nm3 x k) := by
  unfold signR nm3
  rw [pre_at, pre_at]
  cases atB x k 43 <;> cases atB x k 45 <;> simp [List.drop_drop]

theorem rnumG_eq (x : List UInt8) : numG x = decide (0 < nmG x ∧ nmG x = x.length) := by
  unfold numG
  rw [trim0]
  have h0 := nm0_le x
  unfold nmG
  have hd0 := dig_le x (nm0 x) h0
  obtain ⟨a0, ha0⟩ : ∃ a, a = nm0 x := ⟨_, rfl⟩
  rw [← ha0] at h0 hd0 ⊢
  obtain ⟨d0, hdd⟩ : ∃ d, d = digN (x.drop a0) := ⟨_, rfl⟩
  by_cases hz : d0 = 0
  · rw [if_pos (.inl ((figL_nil _).2 (by omega))), if_pos (by omega)]
    rfl
  rw [← hdd] at hd0 ⊢
  rw [if_neg hz]
  have hlen : (figL (x.drop a0)).length = d0 := by rw [figL_eq, List.length_take, ← hdd, List.length_drop]; omega
  have hhead : (figL (x.drop a0)).head? = some 48 ↔ atB x a0 48 = true := by
    rw [figL_eq, ← hdd, List.head?_take, if_neg hz, rhead_at]
  by_cases hc : 1 < d0 ∧ atB x a0 48 = true
  · rw [if_pos (.inr ⟨by rw [hlen]; exact hc.1, hhead.2 hc.2⟩)]
    have e1 : nm1 x a0 = 1 := by unfold nm1; rw [hc.2]; rfl
    have q : ∀ n : UInt8, isDg n = false → atB x (a0 + 1) n = false := fun n hn => dig_not (by omega) hn
    have e2 : nm2 x (a0 + 1) = a0 + 1 := by unfold nm2; rw [q 46 (by decide)]; rfl
    have e3 : nm4 x (a0 + 1) = a0 + 1 := by unfold nm4; rw [q 101 (by decide), q 69 (by decide)]; rfl
    rw [e1, e2, e3]
    exact (decide_eq_false (by omega)).symm
  · rw [if_neg (fun h => h.elim (fun h => hz (hdd.trans ((figL_nil _).1 h))) (fun h => hc ⟨by rw [← hlen]; exact h.1, hhead.1 h.2⟩))]
    have e1 : nm1 x a0 = d0 := by
      unfold nm1
      cases h48 : atB x a0 48 with
      | true => have : ¬ 1 < d0 := fun h => hc ⟨h, h48⟩; show 1 = d0; omega
      | false => exact hdd.symm
    rw [e1, figR_eq, ← hdd, List.drop_drop]
    obtain ⟨a1, ha1⟩ : ∃ a, a = a0 + d0 := ⟨_, rfl⟩
    rw [← ha1] at hd0 ⊢
    have ha1p : 0 < a1 := by omega
    have h2 := nm2_le x a1 hd0
    -- the tail, from the fraction's end on
    have tail : ∀ a2, a1 ≤ a2 → a2 ≤ x.length → (if x.drop a2 = [] then true else expG (x.drop a2)) = decide (0 < nm4 x a2 ∧ nm4 x a2 = x.length) := fun a2 k1 k2 => by
      by_cases hn : a2 = x.length
      · rw [if_pos ((drop_nil_iff x k2).2 hn)]
        have q : ∀ n, atB x a2 n = false := fun n => by
          cases h : atB x a2 n with
          | false => rfl
          | true => have := atB_lt h; omega
        have e : nm4 x a2 = a2 := by unfold nm4; rw [q, q]; rfl
        rw [e]
        exact (decide_eq_true ⟨by omega, hn⟩).symm
      · rw [if_neg fun h => hn ((drop_nil_iff x k2).1 h)]
        unfold expG
        by_cases he : atB x a2 101 = true ∨ atB x a2 69 = true
        · rw [if_pos (he.imp (rhead_at x a2 101).2 (rhead_at x a2 69).2)]
          simp only [List.drop_drop, signR_eq]
          have hlt : a2 < x.length := he.elim atB_lt atB_lt
          have h3 := nm3_le x (a2 + 1) hlt
          have h4 := dig_le x (nm3 x (a2 + 1)) h3
          have hb : (atB x a2 101 || atB x a2 69) = true := by rw [Bool.or_eq_true]; exact he
          have e4 : nm4 x a2 = bif decide (0 < digN (x.drop (nm3 x (a2 + 1)))) then nm3 x (a2 + 1) + digN (x.drop (nm3 x (a2 + 1))) else a2 := by unfold nm4; rw [hb]; rfl
          have hf1 : (figL (x.drop (nm3 x (a2 + 1))) ≠ []) ↔ 0 < digN (x.drop (nm3 x (a2 + 1))) := ⟨fun h => Nat.pos_of_ne_zero fun e => h ((figL_nil _).2 e), fun h e => by have := (figL_nil _).1 e; omega⟩
          have hf2 : figR (x.drop (nm3 x (a2 + 1))) = [] ↔ nm3 x (a2 + 1) + digN (x.drop (nm3 x (a2 + 1))) = x.length := by rw [figR_eq, List.drop_drop]; exact drop_nil_iff x h4
          rw [Bool.eq_iff_iff, Bool.and_eq_true, decide_eq_true_eq, decide_eq_true_eq, decide_eq_true_eq, hf1, hf2, e4]
          generalize nm3 x (a2 + 1) = k at *
          generalize digN (x.drop k) = dd at *
          by_cases hp : 0 < dd
          · rw [decide_eq_true hp]
            show _ ↔ 0 < k + dd ∧ k + dd = x.length
            omega
          · rw [decide_eq_false hp]
            show _ ↔ 0 < a2 ∧ a2 = x.length
            omega
        · rw [if_neg (fun h => he (h.imp (rhead_at x a2 101).1 (rhead_at x a2 69).1))]
          have hb : (atB x a2 101 || atB x a2 69) = false := by
            cases h1 : atB x a2 101 with
            | true => exact absurd (.inl h1) he
            | false => cases h2 : atB x a2 69 with
              | true => exact absurd (.inr h2) he
              | false => rfl
          have e4 : nm4 x a2 = a2 := by unfold nm4; rw [hb]; rfl
          rw [e4]
          exact (decide_eq_false (fun h => hn h.2)).symm
    unfold fracG
    rw [pre_at, List.drop_drop]
    cases h46 : atB x a1 46 with
    | false =>
      have e2 : nm2 x a1 = a1 := by unfold nm2; rw [h46]; rfl
      rw [e2]
      exact tail a1 (Nat.le_refl _) hd0
    | true =>
      rw [if_pos rfl]
      by_cases hd : digN (x.drop (a1 + 1)) = 0
      · rw [if_pos ((figL_nil _).2 hd)]
        have hlt := atB_lt h46
        have e2 : nm2 x a1 = a1 := by unfold nm2; rw [h46, decide_eq_false (by omega)]; rfl
        have e4 : nm4 x a1 = a1 := by unfold nm4; rw [atB_two h46 (by decide), atB_two h46 (by decide)]; rfl
        rw [e2, e4]
        exact (decide_eq_false (by omega)).symm
      · rw [if_neg fun h => hd ((figL_nil _).1 h)]
        have e2 : nm2 x a1 = a1 + 1 + digN (x.drop (a1 + 1)) := by unfold nm2; rw [h46, decide_eq_true (by omega)]; rfl
        rw [figR_eq, List.drop_drop, ← e2]
        exact tail _ (by omega) h2
end Go.Proofs.YtaniebkfgkhgoaaGreatDoor

namespace Go.Proofs.YtaniebkfgkhgoaaGreatDoor
open Go.Lib
set_option linter.unusedVariables false

/-- A byte of numbers. -/
def isN (a : UInt8) : Bool := [48, 49, 50, 51, 52, 53, 54, 55, 56, 57, 43, 45, 46, 101, 69].contains a
theorem isN_dg {a : UInt8} (h : isN a = false) : isDg a = false := by
  rw [← fig_c]
  unfold isN at h
  simp only [List.contains_cons, List.contains_nil, Bool.or_eq_false_iff] at h ⊢
  obtain ⟨h0, h1, h2, h3, h4, h5, h6, h7, h8, h9, -⟩ := h
  exact ⟨h0, h1, h2, h3, h4, h5, h6, h7, h8, h9, trivial⟩
theorem numLR (l : List UInt8) : numL l ++ numR l = l := by
  unfold numL
  conv => lhs; rhs; rw [numR, ← trimLeftS_drop]
  rw [← numR, List.take_append_drop]
theorem numR_head (l : List UInt8) (a : UInt8) (h : (numR l).head? = some a) : isN a = false := by
  unfold numR trimLeftS at h
  have := List.head?_dropWhile_not (fun x => [48, 49, 50, 51, 52, 53, 54, 55, 56, 57, 43, 45, 46, 101, 69].contains x) l
  rw [h] at this
  simpa [isN] using this
theorem numL_all (l : List UInt8) : ∀ a ∈ numL l, isN a = true := by
  have h : numL l = l.takeWhile isN := by
    have e := numLR l
    have e2 : l.takeWhile isN ++ l.dropWhile isN = l := List.takeWhile_append_dropWhile
    have e3 : numR l = l.dropWhile isN := rfl
    rw [e3] at e
    exact List.append_cancel_right (e.trans e2.symm)
  rw [h]
  intro a ha
  have := List.all_takeWhile (p := isN) (l := l)
  exact List.all_eq_true.1 this a ha

section
variable {x y : List UInt8} (hy : ∀ a, y.head? = some a → isN a = false)
include hy
theorem atB_loc {k : Nat} (hk : k ≤ x.length) {n : UInt8} (hn : isN n = true) : atB (x ++ y) k n = atB x k n := by
  unfold atB
  by_cases h : k < x.length
  · rw [List.getElem?_append_left h]
  · rw [List.getElem?_append_right (by omega), List.getElem?_eq_none (show x.length ≤ k by omega), show k - x.length = 0 by omega]
    refine (decide_eq_false fun e => ?_).trans (decide_eq_false (by simp)).symm
    rw [← List.head?_eq_getElem?] at e
    rw [hy n e] at hn; cases hn
theorem digN_loc : ∀ z : List UInt8, digN (z ++ y) = digN z
  | [] => by
    cases y with
    | nil => rfl
    | cons a t =>
      rw [List.nil_append, digN_cons, isN_dg (hy a rfl)]; rfl
  | a :: t => by rw [List.cons_append, digN_cons, digN_cons, digN_loc t]
theorem digd_loc {k : Nat} (hk : k ≤ x.length) : digN ((x ++ y).drop k) = digN (x.drop k) := by
  rw [List.drop_append_of_le_length hk]; exact digN_loc hy _
theorem nm0_loc : nm0 (x ++ y) = nm0 x := by unfold nm0; rw [atB_loc hy (Nat.zero_le _) (by decide)]
theorem nm1_loc {a : Nat} (ha : a ≤ x.length) : nm1 (x ++ y) a = nm1 x a := by unfold nm1; rw [atB_loc hy ha (by decide), digd_loc hy ha]
theorem nm2_loc {a : Nat} (ha : a ≤ x.length) : nm2 (x ++ y) a = nm2 x a := by
  unfold nm2
  rw [atB_loc hy ha (by decide)]
  cases h : atB x a 46 with
  | false => rfl
  | true => have := atB_lt h; rw [digd_loc hy (show a + 1 ≤ x.length from this)]
theorem nm3_loc {a : Nat} (ha : a ≤ x.length) : nm3 (x ++ y) a = nm3 x a := by unfold nm3; rw [atB_loc hy ha (by decide), atB_loc hy ha (by decide)]
theorem nm4_loc {a : Nat} (ha : a ≤ x.length) : nm4 (x ++ y) a = nm4 x a := by
  unfold nm4
  rw [atB_loc hy ha (by decide), atB_loc hy ha (by decide)]
  cases h : (atB x a 101 || atB x a 69) with
  | false => rfl
  | true =>
    rw [Bool.or_eq_true] at h
    have hlt : a + 1 ≤ x.length := h.elim atB_lt atB_lt
    rw [nm3_loc hy hlt, digd_loc hy (nm3_le x _ hlt)]
theorem nmG_loc : nmG (x ++ y) = nmG x := by
  unfold nmG
  have h0 := nm0_le x
  have h1 := nm1_le x _ h0
  rw [nm0_loc hy, digd_loc hy h0, nm1_loc hy h0, nm2_loc hy h1, nm4_loc hy (nm2_le x _ h1)]
end
theorem nm4_le (l : List UInt8) (a : Nat) (h : a ≤ l.length) : nm4 l a ≤ l.length := by
  unfold nm4
  cases h1 : (atB l a 101 || atB l a 69) with
  | false => simpa using h
  | true =>
    rw [Bool.or_eq_true] at h1
    have hlt : a + 1 ≤ l.length := h1.elim atB_lt atB_lt
    have h3 := dig_le l (nm3 l (a + 1)) (nm3_le l _ hlt)
    cases decide (0 < digN (l.drop (nm3 l (a + 1)))) with
    | false => simpa using h
    | true => simpa using h3
theorem nmG_le (l : List UInt8) : nmG l ≤ l.length := by
  unfold nmG
  split
  · omega
  · exact nm4_le l _ (nm2_le l _ (nm1_le l _ (nm0_le l)))
theorem nmG_num (l : List UInt8) : nmG l = nmG (numL l) := by
  conv => lhs; rw [← numLR l]
  exact nmG_loc (numR_head l)
theorem num_bad (l : List UInt8) (h : numG (numL l) = false) (h0 : 0 < nmG l) : ∃ a t, l.drop (nmG l) = a :: t ∧ isN a = true := by
  rw [rnumG_eq, decide_eq_false_iff_not] at h
  rw [nmG_num] at h0 ⊢
  have h1 := nmG_le (numL l)
  have h2 : nmG (numL l) < (numL l).length := by omega
  generalize nmG (numL l) = k at *
  have e : l.drop k = (numL l).drop k ++ numR l := by
    conv => lhs; rw [← numLR l]
    exact List.drop_append_of_le_length (by omega)
  rw [e, List.drop_eq_getElem_cons h2]
  exact ⟨_, _, rfl, numL_all l _ (List.getElem_mem h2)⟩

/-- A word, a number, a text: as the reference reads them. -/
def refSg (l : List UInt8) : Option (JV × List UInt8) :=
  if hasPrefix l [110, 117, 108, 108] = true then some (jWord 1, sk (l.drop 4))
  else if hasPrefix l [102, 97, 108, 115, 101] = true then some (jWord 2, sk (l.drop 5))
  else if hasPrefix l [116, 114, 117, 101] = true then some (jWord 3, sk (l.drop 4))
  else if 0 < nmG l then some (jNum (l.take (nmG l)), sk (l.drop (nmG l)))
  else match unqG l with | some (t, m) => some (jText t, sk (l.drop m)) | none => none
/-- The one fails where the other leaves a byte of numbers. -/
def RelB (o1 o2 : Option (JV × List UInt8)) : Prop := o1 = o2 ∨ (o1 = none ∧ ∃ v a t, o2 = some (v, a :: t) ∧ isN a = true)
theorem single_rel (l : List UInt8) : RelB (singleG l) (refSg l) := by
  unfold singleG refSg
  by_cases h1 : hasPrefix l [110, 117, 108, 108] = true
  · rw [if_pos h1, if_pos h1]; exact .inl rfl
  rw [if_neg h1, if_neg h1]
  by_cases h2 : hasPrefix l [102, 97, 108, 115, 101] = true
  · rw [if_pos h2, if_pos h2]; exact .inl rfl
  rw [if_neg h2, if_neg h2]
  by_cases h3 : hasPrefix l [116, 114, 117, 101] = true
  · rw [if_pos h3, if_pos h3]; exact .inl rfl
  rw [if_neg h3, if_neg h3]
  have hp := pre_at l 0 34
  rw [List.drop_zero] at hp
  by_cases h4 : hasPrefix l [34] = true
  · rw [if_pos h4]
    rw [h4] at hp
    have hz : nmG l = 0 := by
      unfold nmG
      have e0 : nm0 l = 0 := by unfold nm0; rw [atB_two hp.symm (by decide)]; rfl
      rw [e0, List.drop_zero, if_pos]
      cases l with
      | nil => rfl
      | cons a t =>
        have : a = 34 := by have := hp; unfold atB at this; simpa using this.symm
        subst this
        rw [digN_cons]; rfl
    rw [if_neg (by omega)]
    exact .inl rfl
  · rw [if_neg h4]
    have hu : unqG l = none := by
      cases l with
      | nil => rfl
      | cons a t =>
        have : a ≠ 34 := fun e => h4 (by subst e; rfl)
        simp only [unqG]; rw [if_neg this]
    rw [hu]
    cases hn : numG (numL l) with
    | true =>
      rw [if_pos rfl]
      rw [rnumG_eq, decide_eq_true_eq, ← nmG_num] at hn
      rw [if_pos hn.1]
      have hl := congrArg List.length (numLR l)
      rw [List.length_append] at hl
      refine .inl ?_
      rw [show l.length - (numR l).length = nmG l by omega]
      have : l.take (nmG l) = numL l := by
        rw [hn.2]
        have e := congrArg (List.take (numL l).length) (numLR l)
        rw [List.take_left] at e
        exact e.symm
      rw [this]
    | false =>
      rw [if_neg (by decide)]
      by_cases h0 : 0 < nmG l
      · rw [if_pos h0]
        obtain ⟨a, t, e, ha⟩ := num_bad l hn h0
        refine .inr ⟨rfl, jNum (l.take (nmG l)), a, t, ?_, ha⟩
        rw [e]
        have : sk (a :: t) = a :: t := by
          unfold sk trimLeftS
          rw [List.dropWhile_cons, if_neg]
          intro hb
          have : ∀ b : UInt8, [32, 9, 10, 13].contains b = true → isN b = false := by
            intro b hb
            simp only [List.contains_cons, List.contains_nil, Bool.or_eq_true, beq_iff_eq, Bool.false_eq_true, or_false] at hb
            rcases hb with rfl | rfl | rfl | rfl <;> decide
          rw [this a hb] at ha; cases ha
        rw [this]
      · rw [if_neg h0]
        exact .inl rfl
theorem take_bad {a : UInt8} {t : List UInt8} (h : isN a = true) {c : UInt8} (hc : isN c = false) : takeG c (a :: t) = none := by
  unfold takeG
  rw [if_neg]
  intro e
  cases (Option.some.inj e : a = c)
  rw [h] at hc; cases hc
theorem rel_all : ∀ f : Nat, (∀ l, RelB ((rdE singleG f).1 l) ((rdE refSg f).1 l)) ∧ (∀ F l, RelB ((rdE singleG f).2 F l) ((rdE refSg f).2 F l))
  | 0 => ⟨fun l => .inl rfl, fun F l => .inl rfl⟩
  | f + 1 => by
    obtain ⟨ih1, ih2⟩ := rel_all f
    have hop : ∀ (o : Bool) (r : List UInt8), RelB (match takeG (Fr.new o).mark r with | some r' => some ((Fr.new o).close, r') | none => (rdE singleG f).2 (Fr.new o) r) (match takeG (Fr.new o).mark r with | some r' => some ((Fr.new o).close, r') | none => (rdE refSg f).2 (Fr.new o) r) := fun o r => by
      cases takeG (Fr.new o).mark r with
      | some r' => exact .inl rfl
      | none => exact ih2 _ _
    refine ⟨fun l => ?_, fun F l => ?_⟩
    · simp only [rdE]
      cases takeG 91 l with
      | some r => exact hop false r
      | none =>
        cases takeG 123 l with
        | some r => exact hop true r
        | none => exact single_rel l
    · simp only [rdE]
      cases nameG F l with
      | none => exact .inl rfl
      | some p =>
        obtain ⟨F', r⟩ := p
        simp only []
        rcases ih1 r with e | ⟨e1, v, a, t, e2, ha⟩
        · rw [e]
          cases (rdE refSg f).1 r with
          | none => exact .inl rfl
          | some p =>
            obtain ⟨v, l2⟩ := p
            simp only []
            cases takeG F'.mark l2 with
            | some r' => exact .inl rfl
            | none =>
              simp only []
              cases takeG 44 l2 with
              | none => exact .inl rfl
              | some r' => exact ih2 _ _
        · rw [e1, e2]
          simp only []
          have hm : isN F'.mark = false := by unfold Fr.mark; split <;> decide
          rw [take_bad ha hm, take_bad ha (show isN 44 = false by decide)]
          exact .inl rfl
/-- What a whole text tells, as the reference reads it. -/
theorem whole_ref (l : List UInt8) (f : Nat) (hf : 2 * l.length + 1 ≤ f) : wholeG l = match (rdE refSg f).1 (sk l) with | some (v, []) => some v | _ => none := by
  rw [whole_rd l f hf]
  rcases (rel_all f).1 (sk l) with e | ⟨e1, v, a, t, e2, ha⟩
  · rw [e]
    cases (rdE refSg f).1 (sk l) with
    | none => rfl
    | some p => obtain ⟨v, r⟩ := p; cases r <;> rfl
  · rw [e1, e2]
end Go.Proofs.YtaniebkfgkhgoaaGreatDoor

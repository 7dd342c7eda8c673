/- Contracts of quote.unit and quote.escape: what an escape denotes. -/
import Derived.Test.YtnjikipncgbjjaaGreatDoorQuoB
import Derived.Shelf.Unicode.DecodeSlow
import Derived.Laws.BitsLemmas
import Derived.Laws.DeepBits32
namespace Go.Proofs.YtnjikipncgbjjaaGreatDoor
open Go.RowKit
set_option linter.unusedVariables false
set_option maxRecDepth 100000

/-- The library's tables lie as their text lays them. -/
structure TabsW (w : World) : Prop where
  case' : Lib.CaseVar 4 Lib.caseA w
  utf8' : Lib.Utf8Tabs 2 3 w
theorem TabsW.below {w w' : World} (h : TabsW w) (b : Below w.heap.size w w') : TabsW w' := ⟨Lib.CaseVar_below h.case' b, Utf8Tabs_below h.utf8' b⟩

theorem mapGoD_len (f : Int → Int) : ∀ (n : Nat) (l : List UInt8), (Lib.mapGoD f n l).length ≤ 4 * n
  | 0, _ => by simp [Lib.mapGoD]
  | n + 1, l => by
    simp only [Lib.mapGoD]
    split
    · simp
    · have ih := mapGoD_len f n (l.drop (Lib.decodeL l).2)
      rw [List.length_append]
      split
      · have := Lib.encodeRuneZ_length (f (Lib.decodeL l).1)
        unfold Lib.encodeRune
        rw [List.length_map]
        omega
      · simp; omega

def unitS : Option Nat → Value
  | some n => .tuple #[.int .i32 (n : Int), .bool true]
  | none => .tuple #[.int .i32 0, .bool false]

theorem unit_any (s : ByteArray) (w : World) (hT : TabsW w) (hs : s.size ≤ 1099511627776) :
    Calls Tryz.prog 130 #[.string s] w fun e w' => e = .returned (unitS (unitG s.data.toList)) ∧ Below w.heap.size w w' := by
  have hl : s.data.toList.length = s.size := by simp
  by_cases h6 : s.size < 6
  · have HU : Hid (unitG s.data.toList = none) := by
      show unitG s.data.toList = none
      cases hu : unitG s.data.toList with
      | none => rfl
      | some n => have := (unitG_facts hu).2.1; omega
    have h6' : (s.size : Int) < 6 := by omega
    clear hl hT
    go_enter Tryz.func130, Tryz.ntmps130
    go_wp2_with fail
    go_ret2
    exact ⟨by rw [HU.out]; rfl, Below.refl _ _⟩
  · have h6' : ¬ (s.size : Int) < 6 := by omega
    have hp := fun w0 => Tryz.strings_HasPrefix s ⟨#[92, 117]⟩ w0
    cases hpre : Lib.hasPrefix s.data.toList [92, 117] with
    | false =>
      have HU : Hid (unitG s.data.toList = none) := by
        show unitG s.data.toList = none
        cases hd : s.data.toList with
        | nil => rfl
        | cons a t =>
          cases t with
          | nil => rfl
          | cons b t =>
            simp only [unitG]
            rw [if_neg]
            rintro ⟨rfl, rfl⟩
            rw [hd] at hpre
            revert hpre
            show List.isPrefixOf [92, 117] (92 :: 117 :: t) = false → False
            simp [List.isPrefixOf]
      change ∀ w0, Calls Tryz.prog 95 #[.string s, .string ⟨#[92, 117]⟩] w0 fun e w' => e = .returned (.bool (Lib.hasPrefix s.data.toList [92, 117])) ∧ w' = w0 at hp
      rw [hpre] at hp
      clear hl hT hpre
      go_enter Tryz.func130, Tryz.ntmps130
      go_wp2_with (go_at_call 95; refine (hp _).mono ?_; first | rintro e w' rfl rfl | rintro e w' ⟨rfl, rfl⟩)
      go_ret2
      exact ⟨by rw [HU.out]; rfl, Below.refl _ _⟩
    | true =>
      obtain ⟨t, ht⟩ : ∃ t, s.data.toList = 92 :: 117 :: t := by
        have : [92, 117] <+: s.data.toList := List.isPrefixOf_iff_prefix.1 hpre
        obtain ⟨t, e⟩ := this
        exact ⟨t, e.symm⟩
      obtain ⟨a, b, c, d, r, hr⟩ : ∃ a b c d r, t = a :: b :: c :: d :: r := by
        have h4 : 4 ≤ t.length := by rw [ht] at hl; simp at hl; omega
        match t, h4 with
        | a :: b :: c :: d :: r, _ => exact ⟨a, b, c, d, r, rfl⟩
      subst hr
      have HX : (s.extract 2 6).data.toList = [a, b, c, d] := by
        rw [Lib.extract_data, ht]; rfl
      have hU : unitG s.data.toList = fourG [a, b, c, d] := by rw [ht]; simp only [unitG, fourG, and_self, if_true]
      change ∀ w0, Calls Tryz.prog 95 #[.string s, .string ⟨#[92, 117]⟩] w0 fun e w' => e = .returned (.bool (Lib.hasPrefix s.data.toList [92, 117])) ∧ w' = w0 at hp
      rw [hpre] at hp
      obtain ⟨L, hL⟩ : ∃ L, Lib.toLowerD [a, b, c, d] = L := ⟨_, rfl⟩
      have hlow : Calls Tryz.prog 134 #[.string (s.extract 2 6)] w fun e w' => e = .returned (.string ⟨L.toArray⟩) ∧ Below w.heap.size w w' := by
        have := Tryz.strings_ToLower_any (s.extract 2 6) w (by rw [Lib.size_eq, HX]; show 4 < _; omega) hT.case' hT.utf8'
        rw [HX, hL] at this; exact this
      have hLs : L.length ≤ 16 := by rw [← hL]; exact mapGoD_len Lib.toLowerU 4 [a, b, c, d]
      have hunx : ∀ w0, Calls Tryz.prog 133 #[.string ⟨L.toArray⟩] w0 fun e w' => e = .returned (pairS ((fourG [a, b, c, d]).map fun n => [UInt8.ofNat (n / 256), UInt8.ofNat (n % 256)])) ∧ Below w0.heap.size w0 w' := fun w0 => by
        have := unhex_any ⟨L.toArray⟩ w0 (by show L.length ≤ _; omega)
        simp only at this
        rw [← hL, lower_four] at this; rw [← hL]; exact this
      cases hf : fourG [a, b, c, d] with
      | none =>
        have HU : Hid (unitG s.data.toList = none) := hU.trans hf
        rw [hf] at hunx
        change ∀ w0, Calls Tryz.prog 133 #[.string ⟨L.toArray⟩] w0 fun e w' => e = .returned (.tuple #[.string ⟨#[]⟩, .bool false]) ∧ Below w0.heap.size w0 w' at hunx
        clear hl hT hpre ht HX hU hL hf hLs
        go_enter Tryz.func130, Tryz.ntmps130
        go_wp2_with (first
          | (go_at_call 95; refine (hp _).mono ?_; first | rintro e w' rfl rfl | rintro e w' ⟨rfl, rfl⟩)
          | (go_at_call 134; refine hlow.mono ?_))
        first | rintro e W1 rfl b1 | rintro e W1 ⟨rfl, b1⟩
        have B1 := Lib.hid b1
        have S1 := b1.size
        clear b1
        go_wp2_with (go_at_call 133; refine (hunx _).mono ?_)
        first | rintro e W2 rfl b2 | rintro e W2 ⟨rfl, b2⟩
        have B2 := Lib.hid (B1.out.trans (below_low S1 b2))
        clear b2
        go_wp2_with fail
        go_ret2
        exact ⟨by rw [HU.out]; rfl, B2.out⟩
      | some n =>
        have hn := (fourG_facts hf).1
        have HU : Hid (unitG s.data.toList = some n) := hU.trans hf
        rw [hf] at hunx
        obtain ⟨x, hx⟩ : ∃ x, UInt8.ofNat (n / 256) = x := ⟨_, rfl⟩
        obtain ⟨y, hy⟩ : ∃ y, UInt8.ofNat (n % 256) = y := ⟨_, rfl⟩
        change ∀ w0, Calls Tryz.prog 133 #[.string ⟨L.toArray⟩] w0 fun e w' => e = .returned (.tuple #[.string ⟨#[UInt8.ofNat (n / 256), UInt8.ofNat (n % 256)]⟩, .bool true]) ∧ Below w0.heap.size w0 w' at hunx
        rw [hx, hy] at hunx
        have hx2 : x.toNat = n / 256 := by rw [← hx, UInt8.toNat_ofNat']; omega
        have hy2 : y.toNat = n % 256 := by rw [← hy, UInt8.toNat_ofNat']; omega
        have hN := Lib.hid (show (x.toNat : Int) * 256 + (y.toNat : Int) = (n : Int) by omega)
        have hor : bits BinOp.or IntKind.i32 ((x.toNat : Int) * 256) (y.toNat : Int) = (x.toNat : Int) * 256 + (y.toNat : Int) :=
          bits_join .i32 31 (by decide) wraps_i32 8 _ _ (by omega) (by omega) (by omega) (by omega) (by omega) (by omega)
        have hw1 : wrap32 (x.toNat : Int) = (x.toNat : Int) := by unfold wrap32; omega
        have hw2 : wrap32 (y.toNat : Int) = (y.toNat : Int) := by unfold wrap32; omega
        have hw3 : wrap32 ((x.toNat : Int) * 256) = (x.toNat : Int) * 256 := by unfold wrap32; omega
        obtain ⟨P, hP⟩ : ∃ P : ByteArray, (⟨#[x, y]⟩ : ByteArray) = P := ⟨_, rfl⟩
        have hP2 : P.size = 2 := by rw [← hP]; rfl
        have hP0 : P[0]'(by omega) = x := by subst hP; rfl
        have hP1 : P[1]'(by omega) = y := by subst hP; rfl
        rw [hP] at hunx
        clear hl hT hpre ht HX hU hL hf hLs hx hy hx2 hy2 hP
        go_enter Tryz.func130, Tryz.ntmps130
        go_wp2_with (first
          | (go_at_call 95; refine (hp _).mono ?_; first | rintro e w' rfl rfl | rintro e w' ⟨rfl, rfl⟩)
          | (go_at_call 134; refine hlow.mono ?_))
        first | rintro e W1 rfl b1 | rintro e W1 ⟨rfl, b1⟩
        have B1 := Lib.hid b1
        have S1 := b1.size
        clear b1
        go_wp2_with (go_at_call 133; refine (hunx _).mono ?_)
        first | rintro e W2 rfl b2 | rintro e W2 ⟨rfl, b2⟩
        have B2 := Lib.hid (B1.out.trans (below_low S1 b2))
        clear b2
        go_wp2_with fail
        go_region
        go_wp2_with fail
        go_ret2
        refine ⟨?_, B2.out.drew⟩
        rw [HU.out]
        show _ = Ending.returned (.tuple #[.int .i32 (n : Int), .bool true])
        rw [← hN.out]
        rfl
end Go.Proofs.YtnjikipncgbjjaaGreatDoor

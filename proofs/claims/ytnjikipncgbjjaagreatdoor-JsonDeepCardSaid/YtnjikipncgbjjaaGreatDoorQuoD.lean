/- A contract of quote.escape: the letter that an escape denotes, and its bytes. -/
import Derived.Test.YtnjikipncgbjjaaGreatDoorQuoC
namespace Go.Proofs.YtnjikipncgbjjaaGreatDoor
open Go.RowKit
set_option linter.unusedVariables false

def escS : Option (Nat × Nat) → Value
  | some (n, k) => .tuple #[.int .i32 (n : Int), .int .i64 (k : Int)]
  | none => .tuple #[.int .i32 0, .int .i64 0]

set_option maxRecDepth 1000000 in
theorem name_ix : ∀ c : Fin 256, (0 < namedG c.val ∧ c.val ≠ 47 → 0 ≤ Lib.indexByte [34, 92, 98, 102, 110, 114, 116] (UInt8.ofNat c.val) ∧ Lib.indexByte [34, 92, 98, 102, 110, 114, 116] (UInt8.ofNat c.val) < 7 ∧ ([34, 92, 8, 12, 10, 13, 9] : List Nat).getD (Lib.indexByte [34, 92, 98, 102, 110, 114, 116] (UInt8.ofNat c.val)).toNat 0 = namedG c.val) ∧
    (¬ (0 < namedG c.val ∧ c.val ≠ 47) → Lib.indexByte [34, 92, 98, 102, 110, 114, 116] (UInt8.ofNat c.val) = -1) := by decide

theorem lettersAt (i : Nat) (hi : i < 7) (h : i < (⟨#[34, 92, 8, 12, 10, 13, 9]⟩ : ByteArray).size) : ((⟨#[34, 92, 8, 12, 10, 13, 9]⟩ : ByteArray)[i]'h).toNat = ([34, 92, 8, 12, 10, 13, 9] : List Nat).getD i 0 := by
  rcases i with _ | _ | _ | _ | _ | _ | _ | i
  all_goals first | rfl | omega

set_option maxHeartbeats 1000000 in
theorem escape_any (s : ByteArray) (t : List UInt8) (ht : s.data.toList = 92 :: t) (w : World) (hT : TabsW w) (hs : s.size ≤ 1099511627776) :
    Calls Tryz.prog 123 #[.string s] w fun e w' => e = .returned (escS (escG s.data.toList)) ∧ Below w.heap.size w w' := by
  have hl : s.data.toList.length = s.size := by simp
  obtain ⟨O, hO⟩ : ∃ O, O = escS (escG s.data.toList) := ⟨_, rfl⟩
  rw [← hO]
  have HO := Lib.hid hO
  clear hO
  match t, ht with
  | [], ht =>
    have HE : Hid (escG s.data.toList = none) := by show _ = _; rw [ht]; rfl
    have h1 : (s.size : Int) < 2 := by rw [ht] at hl; simp at hl; omega
    clear hl ht hT
    go_enter Tryz.func123, Tryz.ntmps123
    go_wp2_with fail
    go_ret2
    exact ⟨by rw [HO.out, HE.out]; rfl, Below.refl _ _⟩
  | c :: t, ht =>
    have h2n : 2 ≤ s.size := by rw [ht] at hl; simp at hl; omega
    have h2 : ¬ (s.size : Int) < 2 := by omega
    have h1n : 1 < s.size := h2n
    have hc : s[1]'h1n = c := by
      have : s.data.toList[1]? = some c := by rw [ht]; rfl
      rw [Lib.data_getElem? s 1 h1n] at this
      exact Option.some.inj this
    have hesc : escG s.data.toList = if 0 < namedG c.toNat then some (namedG c.toNat, 2) else longG s.data.toList := by rw [ht]; rfl
    have hix := name_ix ⟨c.toNat, UInt8.toNat_lt c⟩
    simp only [UInt8.ofNat_toNat] at hix
    have hib := fun w0 => Tryz.strings_IndexByte ⟨#[34, 92, 98, 102, 110, 114, 116]⟩ (c.toNat : Int) w0
    rw [Lib.toByte _ c rfl] at hib
    change ∀ w0, Calls Tryz.prog 124 #[.string ⟨#[34, 92, 98, 102, 110, 114, 116]⟩, .int .u8 (c.toNat : Int)] w0 fun e w' => e = .returned (.int .i64 (Lib.indexByte [34, 92, 98, 102, 110, 114, 116] c)) ∧ w' = w0 at hib
    by_cases hn : 0 < namedG c.toNat ∧ c.toNat ≠ 47
    · obtain ⟨i0, i7, il⟩ := hix.1 hn
      obtain ⟨i, hi⟩ : ∃ i : Nat, Lib.indexByte [34, 92, 98, 102, 110, 114, 116] c = (i : Int) := ⟨(Lib.indexByte [34, 92, 98, 102, 110, 114, 116] c).toNat, by omega⟩
      rw [hi] at hib i7 il
      have hi7 : i < 7 := by omega
      have HLt := Lib.hid (fun h => (lettersAt i hi7 h).trans (by simpa using il))
      have HE : Hid (escG s.data.toList = some (namedG c.toNat, 2)) := by show _ = _; rw [hesc, if_pos hn.1]
      have hi8 : (i : Int) < 7 := by omega
      have hi9 : (0 : Int) ≤ (i : Int) := by omega
      have HNM := Lib.hid (namedG_facts _ hn.1)
      clear hl ht hT hix hesc hn il i0 i7 hi
      go_enter Tryz.func123, Tryz.ntmps123
      go_wp2_with (go_at_call 124; refine (hib _).mono ?_; first | rintro e w' rfl rfl | rintro e w' ⟨rfl, rfl⟩)
      go_ret2
      refine ⟨?_, Below.refl _ _⟩
      rw [HO.out, HE.out]
      have e1 := HLt.out (by show i < 7; omega)
      have e2 := HNM.out
      have e4 : wrap32 (((⟨#[34, 92, 8, 12, 10, 13, 9]⟩ : ByteArray)[i]'(by show i < 7; omega)).toNat : Int) = (namedG c.toNat : Int) := by rw [e1]; unfold wrap32; omega
      exact congrArg (fun z => Ending.returned (.tuple #[.int .i32 z, .int .i64 2])) e4
    · have hi := hix.2 hn
      rw [hi] at hib
      by_cases h47 : c.toNat = 47
      · have HE : Hid (escG s.data.toList = some (47, 2)) := by show _ = _; rw [hesc, h47]; rfl
        have hct : ((c.toNat : Int) == 47) = true := by simp; omega
        clear hl ht hT hix hesc hn hi h47
        go_enter Tryz.func123, Tryz.ntmps123
        go_wp2_with (go_at_call 124; refine (hib _).mono ?_; first | rintro e w' rfl rfl | rintro e w' ⟨rfl, rfl⟩)
        go_ret2
        exact ⟨by rw [HO.out, HE.out]; rfl, Below.refl _ _⟩
      · have hct : ((c.toNat : Int) == 47) = false := by simp; omega
        have hesc2 : escG s.data.toList = longG s.data.toList := by rw [hesc, if_neg (fun h => hn ⟨h, h47⟩)]
        have hun := unit_any s w hT hs
        cases hu : unitG s.data.toList with
        | none =>
          have HE : Hid (escG s.data.toList = none) := by show _ = _; rw [hesc2]; unfold longG; rw [hu]
          rw [hu] at hun
          change Calls Tryz.prog 130 #[.string s] w fun e w' => e = .returned (.tuple #[.int .i32 0, .bool false]) ∧ Below w.heap.size w w' at hun
          clear hl ht hT hix hesc hn hi hesc2 hu h47
          go_enter Tryz.func123, Tryz.ntmps123
          go_wp2_with (go_at_call 124; refine (hib _).mono ?_; first | rintro e w' rfl rfl | rintro e w' ⟨rfl, rfl⟩)
          go_wp2_with (go_at_call 130; refine hun.mono ?_)
          first | rintro e W1 rfl b1 | rintro e W1 ⟨rfl, b1⟩
          have B2 := Lib.hid b1
          clear b1
          go_wp2_with fail
          go_ret2
          exact ⟨by rw [HO.out, HE.out]; rfl, B2.out⟩
        | some n =>
          obtain ⟨un1, un2, _, _⟩ := unitG_facts hu
          rw [hu] at hun
          change Calls Tryz.prog 130 #[.string s] w fun e w' => e = .returned (.tuple #[.int .i32 (n : Int), .bool true]) ∧ Below w.heap.size w w' at hun
          obtain ⟨z, hz⟩ : ∃ z : Int, z = (n : Int) := ⟨_, rfl⟩
          rw [← hz] at hun
          have HZ := Lib.hid hz
          by_cases hlet : n < 55296 ∨ 57344 ≤ n
          · have HE : Hid (escG s.data.toList = some (n, 6)) := by show _ = _; rw [hesc2]; unfold longG; rw [hu]; simp only; rw [if_pos hlet]
            have hcs : (z < 56320 ∧ z < 55296) ∨ (56320 ≤ z ∧ ¬ z < 57344 ∧ ¬ z < 55296 ∧ 57344 ≤ z) := by omega
            clear hl ht hT hix hesc hn hi hesc2 hu h47 hlet hz un1
            rcases hcs with ⟨k1, k2⟩ | ⟨k1, k2, k3, k4⟩
            all_goals
              go_enter Tryz.func123, Tryz.ntmps123
              go_wp2_with (go_at_call 124; refine (hib _).mono ?_; first | rintro e w' rfl rfl | rintro e w' ⟨rfl, rfl⟩)
              go_wp2_with (go_at_call 130; refine hun.mono ?_)
              first | rintro e W1 rfl b1 | rintro e W1 ⟨rfl, b1⟩
              have B2 := Lib.hid b1
              clear b1
              go_wp2_with fail
              go_ret2
              refine ⟨?_, B2.out⟩
              rw [HO.out, HE.out]
              show _ = Ending.returned (.tuple #[.int .i32 (n : Int), .int .i64 6])
              rw [← HZ.out]
              rfl
          · by_cases hlow : 56320 ≤ n
            · have HE : Hid (escG s.data.toList = none) := by show _ = _; rw [hesc2]; unfold longG; rw [hu]; simp only; rw [if_neg hlet, if_pos hlow]
              have k1 : (56320 : Int) ≤ z := by omega
              have k2 : z < 57344 := by omega
              clear hl ht hT hix hesc hn hi hesc2 hu h47 hlet hlow hz un1
              go_enter Tryz.func123, Tryz.ntmps123
              go_wp2_with (go_at_call 124; refine (hib _).mono ?_; first | rintro e w' rfl rfl | rintro e w' ⟨rfl, rfl⟩)
              go_wp2_with (go_at_call 130; refine hun.mono ?_)
              first | rintro e W1 rfl b1 | rintro e W1 ⟨rfl, b1⟩
              have B2 := Lib.hid b1
              clear b1
              go_wp2_with fail
              go_ret2
              exact ⟨by rw [HO.out, HE.out]; rfl, B2.out⟩
            · have hsize : 6 ≤ s.size := by omega
              have HX : (s.extract 6 s.size).data.toList = s.data.toList.drop 6 := ext_list s 6
              have hun2 : ∀ w0, TabsW w0 → Calls Tryz.prog 130 #[.string (s.extract 6 s.size)] w0 fun e w' => e = .returned (unitS (unitG (s.data.toList.drop 6))) ∧ Below w0.heap.size w0 w' := fun w0 hT0 => by
                rw [← HX]
                exact unit_any _ _ hT0 (by rw [Lib.size_eq, HX, List.length_drop]; omega)
              have k1 : z < 56320 := by omega
              have k2 : ¬ z < 55296 := by omega
              have k3 : ¬ (57344 : Int) ≤ z := by omega
              have k4 : (6 : Int) ≤ (s.size : Int) := by omega
              have hT := Lib.hid hT
              cases hu2 : unitG (s.data.toList.drop 6) with
              | none =>
                have HE : Hid (escG s.data.toList = none) := by show _ = _; rw [hesc2]; unfold longG; rw [hu]; simp only; rw [if_neg hlet, if_neg hlow, hu2]
                rw [hu2] at hun2
                change ∀ w0, TabsW w0 → Calls Tryz.prog 130 #[.string (s.extract 6 s.size)] w0 fun e w' => e = .returned (.tuple #[.int .i32 0, .bool false]) ∧ Below w0.heap.size w0 w' at hun2
                clear hl ht hix hesc hn hi hesc2 hu h47 hlet hlow HX hu2 hz un1
                go_enter Tryz.func123, Tryz.ntmps123
                go_wp2_with (go_at_call 124; refine (hib _).mono ?_; first | rintro e w' rfl rfl | rintro e w' ⟨rfl, rfl⟩)
                go_wp2_with (go_at_call 130; refine hun.mono ?_)
                first | rintro e W1 rfl b1 | rintro e W1 ⟨rfl, b1⟩
                have T1 := hT.out.below b1
                have B1 := Lib.hid b1
                have S1 := b1.size
                clear b1
                go_wp2_with (go_at_call 130; refine (hun2 _ T1).mono ?_)
                first | rintro e W2 rfl b2 | rintro e W2 ⟨rfl, b2⟩
                have B2 := Lib.hid (B1.out.trans (below_low S1 b2))
                clear b2
                go_wp2_with fail
                go_ret2
                exact ⟨by rw [HO.out, HE.out]; rfl, B2.out⟩
              | some m =>
                obtain ⟨um1, um2, _, _⟩ := unitG_facts hu2
                rw [hu2] at hun2
                change ∀ w0, TabsW w0 → Calls Tryz.prog 130 #[.string (s.extract 6 s.size)] w0 fun e w' => e = .returned (.tuple #[.int .i32 (m : Int), .bool true]) ∧ Below w0.heap.size w0 w' at hun2
                obtain ⟨y, hy⟩ : ∃ y : Int, y = (m : Int) := ⟨_, rfl⟩
                rw [← hy] at hun2
                by_cases hm : 56320 ≤ m ∧ m < 57344
                · have HE : Hid (escG s.data.toList = some (65536 + (n - 55296) * 1024 + (m - 56320), 12)) := by show _ = _; rw [hesc2]; unfold longG; rw [hu]; simp only; rw [if_neg hlet, if_neg hlow, hu2]; simp only; rw [if_pos hm]
                  have j1 : ¬ y < 56320 := by omega
                  have j2 : ¬ (57344 : Int) ≤ y := by omega
                  have w1 : wrap32 (z - 55296) = z - 55296 := by unfold wrap32; omega
                  have w2 : wrap32 ((z - 55296) * 1024) = (z - 55296) * 1024 := by unfold wrap32; omega
                  have w3 : wrap32 (65536 + (z - 55296) * 1024) = 65536 + (z - 55296) * 1024 := by unfold wrap32; omega
                  have w4 : wrap32 (y - 56320) = y - 56320 := by unfold wrap32; omega
                  have w5 : wrap32 (65536 + (z - 55296) * 1024 + (y - 56320)) = 65536 + (z - 55296) * 1024 + (y - 56320) := by unfold wrap32; omega
                  have HN := Lib.hid (show ((65536 + (n - 55296) * 1024 + (m - 56320) : Nat) : Int) = 65536 + (z - 55296) * 1024 + (y - 56320) by omega)
                  clear hl ht hix hesc hn hi hesc2 hu h47 hlet hlow HX hu2 hm hz hy un1 um1
                  go_enter Tryz.func123, Tryz.ntmps123
                  go_wp2_with (go_at_call 124; refine (hib _).mono ?_; first | rintro e w' rfl rfl | rintro e w' ⟨rfl, rfl⟩)
                  go_wp2_with (go_at_call 130; refine hun.mono ?_)
                  first | rintro e W1 rfl b1 | rintro e W1 ⟨rfl, b1⟩
                  have T1 := hT.out.below b1
                  have B1 := Lib.hid b1
                  have S1 := b1.size
                  clear b1
                  go_wp2_with (go_at_call 130; refine (hun2 _ T1).mono ?_)
                  first | rintro e W2 rfl b2 | rintro e W2 ⟨rfl, b2⟩
                  have B2 := Lib.hid (B1.out.trans (below_low S1 b2))
                  clear b2
                  go_wp2_with fail
                  go_ret2
                  refine ⟨?_, B2.out⟩
                  rw [HO.out, HE.out]
                  show _ = Ending.returned (.tuple #[.int .i32 ((65536 + (n - 55296) * 1024 + (m - 56320) : Nat) : Int), .int .i64 12])
                  rw [HN.out]
                  rfl
                · have HE : Hid (escG s.data.toList = none) := by show _ = _; rw [hesc2]; unfold longG; rw [hu]; simp only; rw [if_neg hlet, if_neg hlow, hu2]; simp only; rw [if_neg hm]
                  have hcs : y < 56320 ∨ (¬ y < 56320 ∧ 57344 ≤ y) := by omega
                  clear hl ht hix hesc hn hi hesc2 hu h47 hlet hlow HX hu2 hm hz hy un1 um1
                  rcases hcs with j1 | ⟨j1, j2⟩
                  all_goals
                    go_enter Tryz.func123, Tryz.ntmps123
                    go_wp2_with (go_at_call 124; refine (hib _).mono ?_; first | rintro e w' rfl rfl | rintro e w' ⟨rfl, rfl⟩)
                    go_wp2_with (go_at_call 130; refine hun.mono ?_)
                    first | rintro e W1 rfl b1 | rintro e W1 ⟨rfl, b1⟩
                    have T1 := hT.out.below b1
                    have B1 := Lib.hid b1
                    have S1 := b1.size
                    clear b1
                    go_wp2_with (go_at_call 130; refine (hun2 _ T1).mono ?_)
                    first | rintro e W2 rfl b2 | rintro e W2 ⟨rfl, b2⟩
                    have B2 := Lib.hid (B1.out.trans (below_low S1 b2))
                    clear b2
                    go_wp2_with fail
                    go_ret2
                    exact ⟨by rw [HO.out, HE.out]; rfl, B2.out⟩
end Go.Proofs.YtnjikipncgbjjaaGreatDoor

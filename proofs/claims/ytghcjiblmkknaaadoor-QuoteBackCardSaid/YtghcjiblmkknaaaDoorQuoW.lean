/- Contracts of the reference's long and one: the letter that an escape denotes, or that begins a text between quotes. -/
import Derived.Test.YtghcjiblmkknaaaDoorQuoV
namespace Go.Proofs.YtghcjiblmkknaaaDoor
open Go.RowKit
set_option linter.unusedVariables false

theorem at_list (s : ByteArray) (i : Nat) (h : i < s.size) (x : UInt8) (hx : s.data.toList[i]? = some x) : s[i]'h = x := by
  rw [Lib.data_getElem? s i h] at hx
  exact Option.some.inj hx

theorem unit_cut (l : List UInt8) (a b : UInt8) (t : List UInt8) (h : l = a :: b :: t) : unitG l = if a = 92 ∧ b = 117 then fourG (l.drop 2) else none := by
  subst h; rfl

set_option maxHeartbeats 4000000 in
theorem refLong_any (s : ByteArray) (t : List UInt8) (ht : s.data.toList = 92 :: 117 :: t) (w : World) (hs : s.size ≤ 1099511627776) :
    Calls Tryd.prog 37 #[.string s] w fun e w' => e = .returned (letS (longG s.data.toList)) ∧ w' = w := by
  have hl : s.data.toList.length = s.size := by simp
  have hsz2 : 2 ≤ s.size := by rw [ht] at hl; simp at hl; omega
  obtain ⟨O, hO⟩ : ∃ O, O = letS (longG s.data.toList) := ⟨_, rfl⟩
  rw [← hO]
  have HO := Lib.hid hO
  clear hO
  have hu : unitG s.data.toList = fourG (s.data.toList.drop 2) := by rw [unit_cut _ 92 117 t ht]; rfl
  have hfo := fun w0 => refFour_any (s.extract 2 s.size) w0 (by rw [Lib.size_eq, extr_list, List.length_drop]; omega)
  rw [extr_list] at hfo
  have hz2 : (2 : Int) ≤ (s.size : Int) := by omega
  cases hf : fourG (s.data.toList.drop 2) with
  | none =>
    have HE := Lib.hid (show O = .tuple #[.int .i64 0, .int .i64 0] by rw [HO.out]; unfold longG; rw [hu, hf]; rfl)
    rw [hf] at hfo
    change ∀ w0, Calls Tryd.prog 46 #[.string (s.extract 2 s.size)] w0 fun e w' => e = .returned (.int .i64 (-1)) ∧ w' = w0 at hfo
    clear hl ht hu hf
    go_enter Tryd.func37, Tryd.ntmps37
    go_wp2_with (go_at_call 46; refine (hfo _).mono ?_; (first | rintro e v rfl hv | rintro e v ⟨rfl, hv⟩); rw [hv]; clear hv)
    go_ret2
    exact ⟨by rw [HE.out]; rfl, rfl⟩
  | some n =>
    have hn := (fourG_facts hf).1
    rw [hf] at hfo
    obtain ⟨z, hz⟩ : ∃ z : Int, z = (n : Int) := ⟨_, rfl⟩
    change ∀ w0, Calls Tryd.prog 46 #[.string (s.extract 2 s.size)] w0 fun e w' => e = .returned (.int .i64 (n : Int)) ∧ w' = w0 at hfo
    rw [← hz] at hfo
    have hz0 : ¬ z < 0 := by omega
    by_cases hlet : n < 55296 ∨ 57344 ≤ n
    · have HE := Lib.hid (show O = .tuple #[.int .i64 z, .int .i64 6] by rw [HO.out]; unfold longG; rw [hu, hf]; simp only; rw [if_pos hlet, hz]; rfl)
      have hle : ∀ w0, Calls Tryd.prog 32 #[.int .i64 z] w0 fun e w' => e = .returned (.bool true) ∧ w' = w0 := fun w0 => by
        have := isLetter_any z w0
        rw [show decide (0 ≤ z ∧ z ≤ 1114111 ∧ (z < 55296 ∨ 57343 < z)) = true from decide_eq_true (by omega)] at this
        exact this
      clear hl ht hu hf hz hlet hn
      go_enter Tryd.func37, Tryd.ntmps37
      go_wp2_with (first
        | (go_at_call 46; refine (hfo _).mono ?_; (first | rintro e v rfl hv | rintro e v ⟨rfl, hv⟩); rw [hv]; clear hv)
        | (go_at_call 32; refine (hle _).mono ?_; (first | rintro e v rfl hv | rintro e v ⟨rfl, hv⟩); rw [hv]; clear hv))
      go_ret2
      exact ⟨by rw [HE.out]; rfl, rfl⟩
    · have hle : ∀ w0, Calls Tryd.prog 32 #[.int .i64 z] w0 fun e w' => e = .returned (.bool false) ∧ w' = w0 := fun w0 => by
        have := isLetter_any z w0
        rw [show decide (0 ≤ z ∧ z ≤ 1114111 ∧ (z < 55296 ∨ 57343 < z)) = false from decide_eq_false (by omega)] at this
        exact this
      by_cases hhi : 56320 ≤ n
      · have HE := Lib.hid (show O = .tuple #[.int .i64 0, .int .i64 0] by rw [HO.out]; unfold longG; rw [hu, hf]; simp only; rw [if_neg hlet, if_pos hhi]; rfl)
        have k1 : 56319 < z := by omega
        clear hl ht hu hf hz hlet hn hhi
        go_enter Tryd.func37, Tryd.ntmps37
        go_wp2_with (first
          | (go_at_call 46; refine (hfo _).mono ?_; (first | rintro e v rfl hv | rintro e v ⟨rfl, hv⟩); rw [hv]; clear hv)
          | (go_at_call 32; refine (hle _).mono ?_; (first | rintro e v rfl hv | rintro e v ⟨rfl, hv⟩); rw [hv]; clear hv))
        go_ret2
        exact ⟨by rw [HE.out]; rfl, rfl⟩
      · have k1 : ¬ 56319 < z := by omega
        have hlong : longG s.data.toList = match unitG (s.data.toList.drop 6) with
            | none => none
            | some m => if 56320 ≤ m ∧ m < 57344 then some (65536 + (n - 55296) * 1024 + (m - 56320), 12) else none := by
          unfold longG; rw [hu, hf]; simp only; rw [if_neg hlet, if_neg hhi]
          cases unitG (s.data.toList.drop 6) <;> rfl
        by_cases h12 : s.size < 12
        · have HE := Lib.hid (show O = .tuple #[.int .i64 0, .int .i64 0] by
            rw [HO.out, hlong]
            cases hu6 : unitG (s.data.toList.drop 6) with
            | none => rfl
            | some m => have := (unitG_facts hu6).2.1; rw [List.length_drop] at this; omega)
          have k2 : (s.size : Int) < 12 := by omega
          clear hl ht hu hf hz hlet hn hhi hlong h12
          go_enter Tryd.func37, Tryd.ntmps37
          go_wp2_with (first
            | (go_at_call 46; refine (hfo _).mono ?_; (first | rintro e v rfl hv | rintro e v ⟨rfl, hv⟩); rw [hv]; clear hv)
            | (go_at_call 32; refine (hle _).mono ?_; (first | rintro e v rfl hv | rintro e v ⟨rfl, hv⟩); rw [hv]; clear hv))
          go_ret2
          exact ⟨by rw [HE.out]; rfl, rfl⟩
        · have k2 : ¬ (s.size : Int) < 12 := by omega
          have h6 : 6 < s.size := by omega
          have h7 : 7 < s.size := by omega
          obtain ⟨x, hx⟩ : ∃ x, s[6]'h6 = x := ⟨_, rfl⟩
          obtain ⟨y, hy⟩ : ∃ y, s[7]'h7 = y := ⟨_, rfl⟩
          have hd6 : s.data.toList.drop 6 = x :: y :: s.data.toList.drop 8 := by
            rw [drop_cons s 6 h6, drop_cons s 7 h7, hx, hy]
          have hu6 := unit_cut _ x y _ hd6
          rw [List.drop_drop] at hu6
          by_cases hxy : x = 92 ∧ y = 117
          · obtain ⟨rfl, rfl⟩ := hxy
            rw [if_pos ⟨rfl, rfl⟩] at hu6
            have hfo2 := fun w0 => refFour_any (s.extract 8 s.size) w0 (by rw [Lib.size_eq, extr_list, List.length_drop]; omega)
            rw [extr_list] at hfo2
            have hz8 : (8 : Int) ≤ (s.size : Int) := by omega
            have hxx : (((92 : UInt8).toNat : Int) == 92) = true := by decide
            cases hf2 : fourG (s.data.toList.drop 8) with
            | none =>
              have HE := Lib.hid (show O = .tuple #[.int .i64 0, .int .i64 0] by rw [HO.out, hlong, hu6, hf2]; rfl)
              rw [hf2] at hfo2
              change ∀ w0, Calls Tryd.prog 46 #[.string (s.extract 8 s.size)] w0 fun e w' => e = .returned (.int .i64 (-1)) ∧ w' = w0 at hfo2
              clear hl ht hu hf hz hlet hn hhi hlong h12 hd6 hu6 hf2
              go_enter Tryd.func37, Tryd.ntmps37
              go_wp2_with (first
                | (go_at_call 46; (with_reducible refine (hfo _).mono ?_); (first | rintro e v rfl hv | rintro e v ⟨rfl, hv⟩); rw [hv]; clear hv)
                | (go_at_call 46; (with_reducible refine (hfo2 _).mono ?_); (first | rintro e v rfl hv | rintro e v ⟨rfl, hv⟩); rw [hv]; clear hv)
                | (go_at_call 32; refine (hle _).mono ?_; (first | rintro e v rfl hv | rintro e v ⟨rfl, hv⟩); rw [hv]; clear hv))
              go_ret2
              exact ⟨by rw [HE.out]; rfl, rfl⟩
            | some m =>
              have hm := (fourG_facts hf2).1
              rw [hf2] at hfo2
              obtain ⟨q, hq⟩ : ∃ q : Int, q = (m : Int) := ⟨_, rfl⟩
              change ∀ w0, Calls Tryd.prog 46 #[.string (s.extract 8 s.size)] w0 fun e w' => e = .returned (.int .i64 (m : Int)) ∧ w' = w0 at hfo2
              rw [← hq] at hfo2
              by_cases hmr : 56320 ≤ m ∧ m < 57344
              · have HE := Lib.hid (show O = .tuple #[.int .i64 (65536 + (z - 55296) * 1024 + q - 56320), .int .i64 12] by
                  rw [HO.out, hlong, hu6, hf2]; simp only; rw [if_pos hmr]
                  show Value.tuple #[.int .i64 ((65536 + (n - 55296) * 1024 + (m - 56320) : Nat) : Int), .int .i64 12] = _
                  rw [show ((65536 + (n - 55296) * 1024 + (m - 56320) : Nat) : Int) = 65536 + (z - 55296) * 1024 + q - 56320 by omega])
                have j1 : ¬ q < 56320 := by omega
                have j2 : ¬ 57343 < q := by omega
                have w1 : IntKind.i64.wrap (z - 55296) = z - 55296 := IntWalk.i64_in _ (by omega)
                have w2 : IntKind.i64.wrap ((z - 55296) * 1024) = (z - 55296) * 1024 := IntWalk.i64_in _ (by omega)
                have w3 : IntKind.i64.wrap (65536 + (z - 55296) * 1024) = 65536 + (z - 55296) * 1024 := IntWalk.i64_in _ (by omega)
                have w4 : IntKind.i64.wrap (65536 + (z - 55296) * 1024 + q) = 65536 + (z - 55296) * 1024 + q := IntWalk.i64_in _ (by omega)
                have w5 : IntKind.i64.wrap (65536 + (z - 55296) * 1024 + q - 56320) = 65536 + (z - 55296) * 1024 + q - 56320 := IntWalk.i64_in _ (by omega)
                have hzr : 55296 ≤ z ∧ z < 56320 := by omega
                have hzr1 := hzr.1
                have hzr2 := hzr.2
                have hqr : q < 57344 := by omega
                clear hl ht hu hf hz hlet hn hhi hlong h12 hd6 hu6 hf2 hmr hm hq hzr
                go_enter Tryd.func37, Tryd.ntmps37
                go_wp2_with (first
                  | (go_at_call 46; (with_reducible refine (hfo _).mono ?_); (first | rintro e v rfl hv | rintro e v ⟨rfl, hv⟩); rw [hv]; clear hv)
                  | (go_at_call 46; (with_reducible refine (hfo2 _).mono ?_); (first | rintro e v rfl hv | rintro e v ⟨rfl, hv⟩); rw [hv]; clear hv)
                  | (go_at_call 32; refine (hle _).mono ?_; (first | rintro e v rfl hv | rintro e v ⟨rfl, hv⟩); rw [hv]; clear hv))
                go_ret2
                exact ⟨by rw [HE.out]; rfl, rfl⟩
              · have HE := Lib.hid (show O = .tuple #[.int .i64 0, .int .i64 0] by rw [HO.out, hlong, hu6, hf2]; simp only; rw [if_neg hmr]; rfl)
                have key : q < 56320 ∨ (¬ q < 56320 ∧ 57343 < q) := by omega
                clear hl ht hu hf hz hlet hn hhi hlong h12 hd6 hu6 hf2 hmr hm hq
                rcases key with j1 | ⟨j1, j2⟩
                all_goals
                  go_enter Tryd.func37, Tryd.ntmps37
                  go_wp2_with (first
                    | (go_at_call 46; (with_reducible refine (hfo _).mono ?_); (first | rintro e v rfl hv | rintro e v ⟨rfl, hv⟩); rw [hv]; clear hv)
                    | (go_at_call 46; (with_reducible refine (hfo2 _).mono ?_); (first | rintro e v rfl hv | rintro e v ⟨rfl, hv⟩); rw [hv]; clear hv)
                    | (go_at_call 32; refine (hle _).mono ?_; (first | rintro e v rfl hv | rintro e v ⟨rfl, hv⟩); rw [hv]; clear hv))
                  go_ret2
                  exact ⟨by rw [HE.out]; rfl, rfl⟩
          · rw [if_neg hxy] at hu6
            have HE := Lib.hid (show O = .tuple #[.int .i64 0, .int .i64 0] by rw [HO.out, hlong, hu6]; rfl)
            have key : (((x.toNat : Int) == 92) = false ∧ ((x.toNat : Int) != 92) = true) ∨ (((x.toNat : Int) == 92) = true ∧ ((x.toNat : Int) != 92) = false ∧ ((y.toNat : Int) == 117) = false ∧ ((y.toNat : Int) != 117) = true) := by
              by_cases hx92 : x = 92
              · right
                have : y.toNat ≠ 117 := fun h => hxy ⟨hx92, UInt8.toNat_inj.1 h⟩
                refine ⟨by rw [hx92]; rfl, by rw [hx92]; rfl, by simp; omega, by simp; omega⟩
              · left
                have : x.toNat ≠ 92 := fun h => hx92 (UInt8.toNat_inj.1 h)
                refine ⟨by simp; omega, by simp; omega⟩
            clear hl ht hu hf hz hlet hn hhi hlong h12 hd6 hu6 hxy
            rcases key with ⟨j1, j1'⟩ | ⟨j1, j1', j2, j2'⟩
            all_goals
              go_enter Tryd.func37, Tryd.ntmps37
              go_wp2_with (first
                | (go_at_call 46; (with_reducible refine (hfo _).mono ?_); (first | rintro e v rfl hv | rintro e v ⟨rfl, hv⟩); rw [hv]; clear hv)
                | (go_at_call 32; refine (hle _).mono ?_; (first | rintro e v rfl hv | rintro e v ⟨rfl, hv⟩); rw [hv]; clear hv))
              go_ret2
              exact ⟨by rw [HE.out]; rfl, rfl⟩
end Go.Proofs.YtghcjiblmkknaaaDoor

/- Layer 7: the walk of the law PathsBack. -/
import Derived.Test.YtlkhpfokmcpeiaaDoorPaQ
namespace Go.Proofs.YtlkhpfokmcpeiaaDoor
open Go.RowKit
set_option linter.unusedVariables false
set_option maxRecDepth 100000

/-- What is kept from call to call. -/
structure Good (w w' : World) : Prop where
  bl : Below w.heap.size w w'
  mx : MaxOK w'
theorem goodN {w w1 w2 : World} (h : Hid (Good w w1)) (hb : Below w1.heap.size w1 w2) : Hid (Good w w2) := Lib.hid ⟨btz h.out.bl hb, h.out.mx.below hb⟩
theorem pairC_two (o : Option (List UInt8)) : (∃ x, o = some x ∧ pairC o = .tuple #[.string (bs x), .int .i64 0]) ∨ pairC o = .tuple #[.string (bs []), .int .i64 2] := by
  cases o with
  | none => exact .inr rfl
  | some p => exact .inl ⟨p, rfl, rfl⟩
theorem clean_small {l x : List UInt8} (h : cleanL l = some x) : x.length ≤ 96 := by
  unfold cleanL at h
  split at h
  · cases h
  · split at h
    · next hg =>
      cases h
      unfold goodL at hg
      simp only [Bool.and_eq_true, decide_eq_true_eq] at hg
      exact hg.2
    · cases h
theorem bs_eqq (x y : List UInt8) : ((bs x).toList == (bs y).toList) = decide (x = y) := by rw [bs_toList]; exact eq_lit' x y
  where eq_lit' (l m : List UInt8) : (l == (bs m).toList) = decide (l = m) := by rw [bs_toList, Bool.eq_iff_iff]; simp

theorem nil_beq (l : List UInt8) : (([] : List UInt8) == l) = l.isEmpty := by cases l <;> rfl
/-- The cases of the order of three clean paths, and of which lies under which. -/
theorem back_cases (X Y Z : List (List UInt8)) :
    (cmpL X Y = -1 ∧ cmpL Y X = 1 ∧ X ≠ Y ∧ (
      (underL Y X = false ∧ (cmpL Y Z < 0 → cmpL X Z < 0)) ∨ (underL Y X = true ∧ (cmpL Y Z < 0 → cmpL X Z < 0) ∧ (underL Z X = true ∨ (underL Z X = false ∧ (cmpL X Z < 0 → cmpL Y Z < 0)))))) ∨
    (cmpL X Y = 0 ∧ cmpL Y X = 0 ∧ X = Y ∧ underL Y X = false) ∨ (cmpL X Y = 1 ∧ cmpL Y X = -1 ∧ X ≠ Y ∧ underL Y X = false) := by
  have hs := cmpL_swap X Y
  have hu : underL Y X = true → cmpL X Y < 0 := under_behind
  have hne : cmpL X Y ≠ 0 → X ≠ Y := fun h e => h (by rw [e]; exact cmpL_self Y)
  rcases cmpL_lt X Y with h | h | h
  · left
    refine ⟨h, by omega, hne (by omega), ?_⟩
    have ht : cmpL Y Z < 0 → cmpL X Z < 0 := fun h2 => cmpL_trans X Y Z (by omega) h2
    cases hy : underL Y X with
    | false => exact .inl ⟨rfl, ht⟩
    | true =>
      refine .inr ⟨rfl, ht, ?_⟩
      cases hz : underL Z X with
      | true => exact .inl rfl
      | false => exact .inr ⟨rfl, fun h2 => under_ahead hy hz h2⟩
  · right; left
    refine ⟨h, by omega, cmpL_zero X Y h, ?_⟩
    cases hy : underL Y X with
    | false => rfl
    | true => have := hu hy; omega
  · right; right
    refine ⟨h, by omega, hne (by omega), ?_⟩
    cases hy : underL Y X with
    | false => rfl
    | true => have := hu hy; omega

/-- What is known of a clean path. -/
theorem clean_facts {a x : List UInt8} (h : cleanL a = some x) : (∀ p ∈ partsL x, p ≠ []) ∧ cleanL x = some x ∧ (partsL x).foldl inL [] = x ∧ inL (dirL x) (nameL x) = x ∧ (x ≠ [] → underL (partsL x) (partsL (dirL x)) = true) := by
  obtain ⟨h1, h2, h3⟩ := clean_parts h
  have hne : ∀ p ∈ partsL x, p ≠ [] := fun p hp => forb_ne (List.all_eq_true.1 h3 p hp)
  refine ⟨hne, clean_again h, by rw [fold_in _ hne, join_parts], ?_, fun hx => ?_⟩
  · have := in_dir (partsL x) hne
    rw [join_parts] at this
    exact this
  · unfold dirL
    rw [dir_parts _ hne (parts_mem x)]
    refine under_dir _ fun e => hx ?_
    rw [← join_parts x, e]; rfl

set_option maxHeartbeats 16000000 in
theorem lawBack_any (a b c : ByteArray) (w : World) (hM : MaxOK w) :
    Calls Tryd.prog 5 #[.string a, .string b, .string c] w fun e w' => e = .returned (.bool true) ∧ Below w.heap.size w w' := by
  have HW : Hid (Good w w) := Lib.hid ⟨Below.refl _ _, hM⟩
  have AW : Hid (∀ w0, MaxOK w0 → Calls Tryd.prog 6 #[] w0 fun e w' => e = .returned (.bool true) ∧ Below w0.heap.size w0 w') := fun w0 h => awake7_any w0 h
  clear hM
  by_cases h1 : 256 < a.size
  · have h1' : (256 : Int) < (a.size : Int) := by omega
    go_enter Tryd.func5, Tryd.ntmps5
    go_wp2_with (first
    | (go_at_call 6; (with_reducible refine (AW.out _ HW.out.mx).mono ?_); rintro e wn ⟨rfl, hb⟩; replace HW := goodN HW hb; clear hb))
    go_ret
    exact ⟨rfl, HW.out.bl⟩
  by_cases h2 : 256 < b.size
  · have h1' : (a.size : Int) ≤ 256 := by omega
    have h2' : (256 : Int) < (b.size : Int) := by omega
    go_enter Tryd.func5, Tryd.ntmps5
    go_wp2_with (first
    | (go_at_call 6; (with_reducible refine (AW.out _ HW.out.mx).mono ?_); rintro e wn ⟨rfl, hb⟩; replace HW := goodN HW hb; clear hb))
    go_ret
    exact ⟨rfl, HW.out.bl⟩
  by_cases h3 : 256 < c.size
  · have h1' : (a.size : Int) ≤ 256 := by omega
    have h2' : (b.size : Int) ≤ 256 := by omega
    have h3' : (256 : Int) < (c.size : Int) := by omega
    go_enter Tryd.func5, Tryd.ntmps5
    go_wp2_with (first
    | (go_at_call 6; (with_reducible refine (AW.out _ HW.out.mx).mono ?_); rintro e wn ⟨rfl, hb⟩; replace HW := goodN HW hb; clear hb))
    go_ret
    exact ⟨rfl, HW.out.bl⟩
  have h1' : (a.size : Int) ≤ 256 := by omega
  have h2' : (b.size : Int) ≤ 256 := by omega
  have h3' : (c.size : Int) ≤ 256 := by omega
  have hz1 := size_of a
  have hz2 := size_of b
  have hz3 := size_of c
  have CA : Hid (∀ w0, Calls Tryd.prog 7 #[.string a] w0 fun e w' => e = .returned (pairC (cleanL a.data.toList)) ∧ Below w0.heap.size w0 w') := fun w0 => by
    have := clean_any a.data.toList w0 (by omega)
    rwa [of_bs] at this
  have CB : Hid (∀ w0, Calls Tryd.prog 7 #[.string b] w0 fun e w' => e = .returned (pairC (cleanL b.data.toList)) ∧ Below w0.heap.size w0 w') := fun w0 => by
    have := clean_any b.data.toList w0 (by omega)
    rwa [of_bs] at this
  have CC : Hid (∀ w0, Calls Tryd.prog 7 #[.string c] w0 fun e w' => e = .returned (pairC (cleanL c.data.toList)) ∧ Below w0.heap.size w0 w') := fun w0 => by
    have := clean_any c.data.toList w0 (by omega)
    rwa [of_bs] at this
  clear h1 h2 h3 hz1 hz2 hz3
  obtain ⟨x2, z2, hx2⟩ := pairC_form (cleanL b.data.toList)
  obtain ⟨x3, z3, hx3⟩ := pairC_form (cleanL c.data.toList)
  rcases pairC_two (cleanL a.data.toList) with ⟨x, hx, hpx⟩ | hpx
  case inr =>
    rw [hpx] at CA
    rw [hx2] at CB
    rw [hx3] at CC
    clear hpx hx2 hx3
    go_enter Tryd.func5, Tryd.ntmps5
    go_wp2_with (first
    | (go_at_call 7; (with_reducible refine (CA.out _).mono ?_); rintro e wn ⟨rfl, hb⟩; replace HW := goodN HW hb; clear hb)
    | (go_at_call 7; (with_reducible refine (CB.out _).mono ?_); rintro e wn ⟨rfl, hb⟩; replace HW := goodN HW hb; clear hb)
    | (go_at_call 7; (with_reducible refine (CC.out _).mono ?_); rintro e wn ⟨rfl, hb⟩; replace HW := goodN HW hb; clear hb)
    | (go_at_call 6; (with_reducible refine (AW.out _ HW.out.mx).mono ?_); rintro e wn ⟨rfl, hb⟩; replace HW := goodN HW hb; clear hb))
    go_ret
    exact ⟨rfl, HW.out.bl⟩
  clear hx2 x2 z2
  rcases pairC_two (cleanL b.data.toList) with ⟨y, hy, hpy⟩ | hpy
  case inr =>
    rw [hpx] at CA
    rw [hpy] at CB
    rw [hx3] at CC
    clear hpx hpy hx3 hx
    go_enter Tryd.func5, Tryd.ntmps5
    go_wp2_with (first
    | (go_at_call 7; (with_reducible refine (CA.out _).mono ?_); rintro e wn ⟨rfl, hb⟩; replace HW := goodN HW hb; clear hb)
    | (go_at_call 7; (with_reducible refine (CB.out _).mono ?_); rintro e wn ⟨rfl, hb⟩; replace HW := goodN HW hb; clear hb)
    | (go_at_call 7; (with_reducible refine (CC.out _).mono ?_); rintro e wn ⟨rfl, hb⟩; replace HW := goodN HW hb; clear hb)
    | (go_at_call 6; (with_reducible refine (AW.out _ HW.out.mx).mono ?_); rintro e wn ⟨rfl, hb⟩; replace HW := goodN HW hb; clear hb))
    go_ret
    exact ⟨rfl, HW.out.bl⟩
  clear hx3 x3 z3
  rcases pairC_two (cleanL c.data.toList) with ⟨z, hz, hpz⟩ | hpz
  case inr =>
    rw [hpx] at CA
    rw [hpy] at CB
    rw [hpz] at CC
    clear hpx hpy hpz hx hy
    go_enter Tryd.func5, Tryd.ntmps5
    go_wp2_with (first
    | (go_at_call 7; (with_reducible refine (CA.out _).mono ?_); rintro e wn ⟨rfl, hb⟩; replace HW := goodN HW hb; clear hb)
    | (go_at_call 7; (with_reducible refine (CB.out _).mono ?_); rintro e wn ⟨rfl, hb⟩; replace HW := goodN HW hb; clear hb)
    | (go_at_call 7; (with_reducible refine (CC.out _).mono ?_); rintro e wn ⟨rfl, hb⟩; replace HW := goodN HW hb; clear hb)
    | (go_at_call 6; (with_reducible refine (AW.out _ HW.out.mx).mono ?_); rintro e wn ⟨rfl, hb⟩; replace HW := goodN HW hb; clear hb))
    go_ret
    exact ⟨rfl, HW.out.bl⟩
  rw [hpx] at CA
  rw [hpy] at CB
  rw [hpz] at CC
  have sx := clean_small hx
  have sy := clean_small hy
  have sz := clean_small hz
  obtain ⟨f1, f2, f3, f4, f5⟩ := clean_facts hx
  have hpl := parts_len x
  have hml := parts_len_mem x
  have hdl : (dirL x).length ≤ 96 := by
    have := joinP_take_le (partsL x) ((partsL x).length - 1)
    rw [← List.dropLast_eq_take, join_parts] at this
    exact Nat.le_trans this sx
  have hnl : (nameL x).length ≤ 96 := by
    unfold nameL
    cases hl : (partsL x).getLast? with
    | none => rw [List.getLastD_eq_getLast?, hl]; simp
    | some q =>
      rw [List.getLastD_eq_getLast?, hl]
      exact Nat.le_trans (hml q (List.mem_of_getLast? hl)) sx
  have CX : Hid (∀ w0, Calls Tryd.prog 7 #[.string (bs x)] w0 fun e w' => e = .returned (.tuple #[.string (bs x), .int .i64 0]) ∧ Below w0.heap.size w0 w') := fun w0 => by
    have := clean_any x w0 (by omega)
    rw [f2] at this
    exact this
  have CS : Hid (∀ w0, Calls Tryd.prog 11 #[.string (bs x)] w0 fun e w' => e = .returned (.tuple #[.string (bs (dirL x)), .string (bs (nameL x))]) ∧ Below w0.heap.size w0 w') := fun w0 => splitB_any x w0 (by omega)
  have CP : Hid (∀ w0, MaxOK w0 → Calls Tryd.prog 14 #[.string (bs x)] w0 (RetSl w0 (partsL x))) := fun w0 h => parts_any x w0 (by omega) h
  have CJ : Hid (∀ w0, Calls Tryd.prog 16 #[.string (bs (dirL x)), .string (bs (nameL x))] w0 fun e w' => e = .returned (.string (bs x)) ∧ Below w0.heap.size w0 w') := fun w0 => by
    have := inB_any (dirL x) (nameL x) w0 (by omega) (by omega)
    rwa [f4] at this
  have UXD : Hid (x ≠ [] → ∀ w0, MaxOK w0 → Calls Tryd.prog 18 #[.string (bs x), .string (bs (dirL x))] w0 fun e w' => e = .returned (.bool true) ∧ Below w0.heap.size w0 w') := fun hne w0 h => by
    have := under_any x (dirL x) w0 (by omega) (by omega) h
    rwa [f5 hne] at this
  have XY : Hid (∀ w0, MaxOK w0 → Calls Tryd.prog 20 #[.string (bs x), .string (bs y)] w0 fun e w' => e = .returned (.int .i64 (cmpL (partsL x) (partsL y))) ∧ Below w0.heap.size w0 w') := fun w0 h => compare_any x y w0 (by omega) (by omega) h
  have YX : Hid (∀ w0, MaxOK w0 → Calls Tryd.prog 20 #[.string (bs y), .string (bs x)] w0 fun e w' => e = .returned (.int .i64 (cmpL (partsL y) (partsL x))) ∧ Below w0.heap.size w0 w') := fun w0 h => compare_any y x w0 (by omega) (by omega) h
  have YZ : Hid (∀ w0, MaxOK w0 → Calls Tryd.prog 20 #[.string (bs y), .string (bs z)] w0 fun e w' => e = .returned (.int .i64 (cmpL (partsL y) (partsL z))) ∧ Below w0.heap.size w0 w') := fun w0 h => compare_any y z w0 (by omega) (by omega) h
  have XZ : Hid (∀ w0, MaxOK w0 → Calls Tryd.prog 20 #[.string (bs x), .string (bs z)] w0 fun e w' => e = .returned (.int .i64 (cmpL (partsL x) (partsL z))) ∧ Below w0.heap.size w0 w') := fun w0 h => compare_any x z w0 (by omega) (by omega) h
  have UYX : Hid (∀ w0, MaxOK w0 → Calls Tryd.prog 18 #[.string (bs y), .string (bs x)] w0 fun e w' => e = .returned (.bool (underL (partsL y) (partsL x))) ∧ Below w0.heap.size w0 w') := fun w0 h => under_any y x w0 (by omega) (by omega) h
  have UZX : Hid (∀ w0, MaxOK w0 → Calls Tryd.prog 18 #[.string (bs z), .string (bs x)] w0 fun e w' => e = .returned (.bool (underL (partsL z) (partsL x))) ∧ Below w0.heap.size w0 w') := fun w0 h => under_any z x w0 (by omega) (by omega) h
  have HCS := Lib.hid (back_cases (partsL x) (partsL y) (partsL z))
  have hxy : Hid (partsL x = partsL y ↔ x = y) := ⟨parts_inj, fun e => by rw [e]⟩
  have HIN : Hid (∀ (k : Nat) (h : k < (partsL x).length), ∀ w0, Calls Tryd.prog 16 #[.string (bs (((partsL x).take k).foldl inL [])), .string (bs (partsL x)[k])] w0 fun e w' => e = .returned (.string (bs (((partsL x).take (k + 1)).foldl inL []))) ∧ w0 = w') := fun k h w0 => by
    have hm := List.getElem_mem h
    have hb1 := joinP_take_le (partsL x) k
    rw [join_parts] at hb1
    have e1 : ((partsL x).take k).foldl inL [] = joinP ((partsL x).take k) := fold_in _ (fun p hp => f1 p (List.mem_of_mem_take hp))
    have := in_any (((partsL x).take k).foldl inL []) (partsL x)[k] w0 (by rw [e1]; omega) (by have := hml _ hm; omega)
    rw [List.take_succ_eq_append_getElem h, List.foldl_append]
    exact this
  have HF3 := Lib.hid f3
  have ex := bs_eqq x x
  rw [decide_eq_true rfl] at ex
  have exy := bs_eqq x y
  clear f1 f2 f3 f4 f5 hml hdl hnl hx hy hz hpx hpy hpz sy sz
  generalize partsL y = Y at *
  generalize partsL z = Z at *
  generalize hX : partsL x = X at *
  generalize bs (dirL x) = sd at *
  generalize bs (nameL x) = sn at *
  generalize bs y = ty at *
  generalize bs z = tz at *
  clear hX
  go_enter Tryd.func5, Tryd.ntmps5
  go_wp2_with (first
    | (go_at_call 7; (with_reducible refine (CA.out _).mono ?_); rintro e wn ⟨rfl, hb⟩; replace HW := goodN HW hb; clear hb)
    | (go_at_call 7; (with_reducible refine (CB.out _).mono ?_); rintro e wn ⟨rfl, hb⟩; replace HW := goodN HW hb; clear hb)
    | (go_at_call 7; (with_reducible refine (CC.out _).mono ?_); rintro e wn ⟨rfl, hb⟩; replace HW := goodN HW hb; clear hb)
    | (go_at_call 7; (with_reducible refine (CX.out _).mono ?_); rintro e wn ⟨rfl, hb⟩; replace HW := goodN HW hb; clear hb)
    | (go_at_call 11; (with_reducible refine (CS.out _).mono ?_); rintro e wn ⟨rfl, hb⟩; replace HW := goodN HW hb; clear hb)
    | (go_at_call 14; (with_reducible refine (CP.out _ HW.out.mx).mono ?_); rintro e wp hr; obtain ⟨ad, cp, rfl, hS, hb⟩ := one_use hr; have HS := Lib.hid hS; replace HW := goodN HW hb; clear hS hb hr))
  obtain ⟨n, hn⟩ : ∃ n, n = X.length := ⟨_, rfl⟩
  rw [← hn] at hpl ⊢
  have HN := Lib.hid hn
  clear hn CA CB CC CX CS CP
  go_loop [18, 19] (fun s i => ∃ k : Nat, i = .int .i64 k ∧ k ≤ n ∧ s = .string (bs ((X.take k).foldl inL []))) (fun _ i => n - (intOf i).toNat)
  case atStart => exact ⟨0, rfl, Nat.zero_le _, rfl⟩
  case round =>
    obtain ⟨k, rfl, hk, rfl⟩ := hrel
    by_cases hlt : k < n
    · have hk' : k < X.length := by rw [← HN.out]; exact hlt
      rcases HS.out with h | ⟨b0, o0, rfl, hw0, hc0⟩
      · exact absurd hk' (by rw [h]; simp)
      have hx := hc0 k hk'
      have HJ := Lib.hid (HIN.out k hk')
      clear hc0
      generalize X[k] = q at *
      generalize hsq : bs ((X.take k).foldl inL []) = sq at *
      clear hsq
      go_wp2_with (go_at_call 16; (with_reducible refine (HJ.out _).mono ?_); rintro e wj ⟨rfl, rfl⟩)
      go_round
      case rel => exact ⟨k + 1, by go_num, by omega, rfl⟩
      case measure => simp [intOf]; omega
    · have hks : k = n := by omega
      have hfold : bs ((X.take k).foldl inL []) = bs x := by rw [hks, List.take_of_length_le (by rw [HN.out]; exact Nat.le_refl _), HF3.out]
      rw [hfold]
      clear hfold HIN HF3 HS
      generalize hsx : bs x = sx' at *
      have ex2 : (sx'.toList != sx'.toList) = false := by simp
      have exe : x = [] → sx'.toList.isEmpty = true ∧ sx'.toList = [] := fun h => by rw [← hsx, bs_toList, h]; exact ⟨rfl, rfl⟩
      have exn : x ≠ [] → sx'.toList.isEmpty = false := fun h => by rw [← hsx, bs_toList]; cases x with | nil => exact absurd rfl h | cons => rfl
      have HEE := Lib.hid exe
      have HEN := Lib.hid exn
      have HXY := Lib.hid exy
      clear exe exn exy hsx
      generalize cmpL X Y = cxy at *
      generalize cmpL Y X = cyx at *
      generalize cmpL Y Z = cyz at *
      generalize cmpL X Z = cxz at *
      generalize underL Y X = uyx at *
      generalize underL Z X = uzx at *
      rcases HCS.out with ⟨rfl, rfl, hxy1, hsub⟩ | ⟨rfl, rfl, hxy1, rfl⟩ | ⟨rfl, rfl, hxy1, rfl⟩
      · have exy : (sx'.toList == ty.toList) = false := by rw [HXY.out, decide_eq_false fun e => hxy1 (hxy.out.2 e)]
        have HSB := Lib.hid hsub
        clear HCS hxy1 hsub
        by_cases hx0 : x = []
        · obtain ⟨e0, e0'⟩ := HEE.out hx0
          have e0y := exy
          rw [e0', nil_beq] at e0y
          clear hx0
          by_cases hyz : cyz < 0
          · have hxz : cxz < 0 := by rcases HSB.out with h | h; exact h.2 hyz; exact h.2.1 hyz
            have hxz2 : ¬ 0 ≤ cxz := by omega
            have hxz3 : decide (0 ≤ cxz) = false := decide_eq_false hxz2
            cases uyx <;> cases uzx
            all_goals
              go_wp2_with (first
              | (go_at_call 16; (with_reducible refine (CJ.out _).mono ?_); rintro e wn ⟨rfl, hb⟩; replace HW := goodN HW hb; clear hb)
              | (go_at_call 18; (with_reducible refine (UXD.out _ HW.out.mx).mono ?_); rintro e wn ⟨rfl, hb⟩; replace HW := goodN HW hb; clear hb)
              | (go_at_call 20; (with_reducible refine (XY.out _ HW.out.mx).mono ?_); rintro e wn ⟨rfl, hb⟩; replace HW := goodN HW hb; clear hb)
              | (go_at_call 20; (with_reducible refine (YX.out _ HW.out.mx).mono ?_); rintro e wn ⟨rfl, hb⟩; replace HW := goodN HW hb; clear hb)
              | (go_at_call 20; (with_reducible refine (YZ.out _ HW.out.mx).mono ?_); rintro e wn ⟨rfl, hb⟩; replace HW := goodN HW hb; clear hb)
              | (go_at_call 20; (with_reducible refine (XZ.out _ HW.out.mx).mono ?_); rintro e wn ⟨rfl, hb⟩; replace HW := goodN HW hb; clear hb)
              | (go_at_call 18; (with_reducible refine (UYX.out _ HW.out.mx).mono ?_); rintro e wn ⟨rfl, hb⟩; replace HW := goodN HW hb; clear hb)
              | (go_at_call 18; (with_reducible refine (UZX.out _ HW.out.mx).mono ?_); rintro e wn ⟨rfl, hb⟩; replace HW := goodN HW hb; clear hb)
              | (go_at_call 6; (with_reducible refine (AW.out _ HW.out.mx).mono ?_); rintro e wn ⟨rfl, hb⟩; replace HW := goodN HW hb; clear hb))
              go_ret
              exact ⟨rfl, HW.out.bl⟩
          · have HQ : Hid (uyx = true → uzx = false → cxz < 0 → False) := fun q1 q2 h => by
              rcases HSB.out with h2 | h2
              · rw [q1] at h2; cases h2.1
              · rcases h2.2.2 with h3 | h3
                · rw [q2] at h3; cases h3
                · exact hyz (h3.2 h)
            cases uyx <;> cases uzx
            all_goals (first | (have hxz : ¬ cxz < 0 := fun h => HQ.out rfl rfl h) | skip)
            all_goals
              go_wp2_with (first
              | (go_at_call 16; (with_reducible refine (CJ.out _).mono ?_); rintro e wn ⟨rfl, hb⟩; replace HW := goodN HW hb; clear hb)
              | (go_at_call 18; (with_reducible refine (UXD.out _ HW.out.mx).mono ?_); rintro e wn ⟨rfl, hb⟩; replace HW := goodN HW hb; clear hb)
              | (go_at_call 20; (with_reducible refine (XY.out _ HW.out.mx).mono ?_); rintro e wn ⟨rfl, hb⟩; replace HW := goodN HW hb; clear hb)
              | (go_at_call 20; (with_reducible refine (YX.out _ HW.out.mx).mono ?_); rintro e wn ⟨rfl, hb⟩; replace HW := goodN HW hb; clear hb)
              | (go_at_call 20; (with_reducible refine (YZ.out _ HW.out.mx).mono ?_); rintro e wn ⟨rfl, hb⟩; replace HW := goodN HW hb; clear hb)
              | (go_at_call 20; (with_reducible refine (XZ.out _ HW.out.mx).mono ?_); rintro e wn ⟨rfl, hb⟩; replace HW := goodN HW hb; clear hb)
              | (go_at_call 18; (with_reducible refine (UYX.out _ HW.out.mx).mono ?_); rintro e wn ⟨rfl, hb⟩; replace HW := goodN HW hb; clear hb)
              | (go_at_call 18; (with_reducible refine (UZX.out _ HW.out.mx).mono ?_); rintro e wn ⟨rfl, hb⟩; replace HW := goodN HW hb; clear hb)
              | (go_at_call 6; (with_reducible refine (AW.out _ HW.out.mx).mono ?_); rintro e wn ⟨rfl, hb⟩; replace HW := goodN HW hb; clear hb))
              go_ret
              exact ⟨rfl, HW.out.bl⟩
        · have e0 := HEN.out hx0
          have UXD2 := Lib.hid (UXD.out hx0)
          clear hx0 UXD
          by_cases hyz : cyz < 0
          · have hxz : cxz < 0 := by rcases HSB.out with h | h; exact h.2 hyz; exact h.2.1 hyz
            have hxz2 : ¬ 0 ≤ cxz := by omega
            have hxz3 : decide (0 ≤ cxz) = false := decide_eq_false hxz2
            cases uyx <;> cases uzx
            all_goals
              go_wp2_with (first
              | (go_at_call 16; (with_reducible refine (CJ.out _).mono ?_); rintro e wn ⟨rfl, hb⟩; replace HW := goodN HW hb; clear hb)
              | (go_at_call 18; (with_reducible refine (UXD2.out _ HW.out.mx).mono ?_); rintro e wn ⟨rfl, hb⟩; replace HW := goodN HW hb; clear hb)
              | (go_at_call 20; (with_reducible refine (XY.out _ HW.out.mx).mono ?_); rintro e wn ⟨rfl, hb⟩; replace HW := goodN HW hb; clear hb)
              | (go_at_call 20; (with_reducible refine (YX.out _ HW.out.mx).mono ?_); rintro e wn ⟨rfl, hb⟩; replace HW := goodN HW hb; clear hb)
              | (go_at_call 20; (with_reducible refine (YZ.out _ HW.out.mx).mono ?_); rintro e wn ⟨rfl, hb⟩; replace HW := goodN HW hb; clear hb)
              | (go_at_call 20; (with_reducible refine (XZ.out _ HW.out.mx).mono ?_); rintro e wn ⟨rfl, hb⟩; replace HW := goodN HW hb; clear hb)
              | (go_at_call 18; (with_reducible refine (UYX.out _ HW.out.mx).mono ?_); rintro e wn ⟨rfl, hb⟩; replace HW := goodN HW hb; clear hb)
              | (go_at_call 18; (with_reducible refine (UZX.out _ HW.out.mx).mono ?_); rintro e wn ⟨rfl, hb⟩; replace HW := goodN HW hb; clear hb)
              | (go_at_call 6; (with_reducible refine (AW.out _ HW.out.mx).mono ?_); rintro e wn ⟨rfl, hb⟩; replace HW := goodN HW hb; clear hb))
              go_ret
              exact ⟨rfl, HW.out.bl⟩
          · have HQ : Hid (uyx = true → uzx = false → cxz < 0 → False) := fun q1 q2 h => by
              rcases HSB.out with h2 | h2
              · rw [q1] at h2; cases h2.1
              · rcases h2.2.2 with h3 | h3
                · rw [q2] at h3; cases h3
                · exact hyz (h3.2 h)
            cases uyx <;> cases uzx
            all_goals (first | (have hxz : ¬ cxz < 0 := fun h => HQ.out rfl rfl h) | skip)
            all_goals
              go_wp2_with (first
              | (go_at_call 16; (with_reducible refine (CJ.out _).mono ?_); rintro e wn ⟨rfl, hb⟩; replace HW := goodN HW hb; clear hb)
              | (go_at_call 18; (with_reducible refine (UXD2.out _ HW.out.mx).mono ?_); rintro e wn ⟨rfl, hb⟩; replace HW := goodN HW hb; clear hb)
              | (go_at_call 20; (with_reducible refine (XY.out _ HW.out.mx).mono ?_); rintro e wn ⟨rfl, hb⟩; replace HW := goodN HW hb; clear hb)
              | (go_at_call 20; (with_reducible refine (YX.out _ HW.out.mx).mono ?_); rintro e wn ⟨rfl, hb⟩; replace HW := goodN HW hb; clear hb)
              | (go_at_call 20; (with_reducible refine (YZ.out _ HW.out.mx).mono ?_); rintro e wn ⟨rfl, hb⟩; replace HW := goodN HW hb; clear hb)
              | (go_at_call 20; (with_reducible refine (XZ.out _ HW.out.mx).mono ?_); rintro e wn ⟨rfl, hb⟩; replace HW := goodN HW hb; clear hb)
              | (go_at_call 18; (with_reducible refine (UYX.out _ HW.out.mx).mono ?_); rintro e wn ⟨rfl, hb⟩; replace HW := goodN HW hb; clear hb)
              | (go_at_call 18; (with_reducible refine (UZX.out _ HW.out.mx).mono ?_); rintro e wn ⟨rfl, hb⟩; replace HW := goodN HW hb; clear hb)
              | (go_at_call 6; (with_reducible refine (AW.out _ HW.out.mx).mono ?_); rintro e wn ⟨rfl, hb⟩; replace HW := goodN HW hb; clear hb))
              go_ret
              exact ⟨rfl, HW.out.bl⟩
      · have exy : (sx'.toList == ty.toList) = true := by rw [HXY.out, decide_eq_true (hxy.out.1 hxy1)]
        clear HCS hxy1
        by_cases hx0 : x = []
        · obtain ⟨e0, e0'⟩ := HEE.out hx0
          have e0y := exy
          rw [e0', nil_beq] at e0y
          clear hx0
          go_wp2_with (first
          | (go_at_call 16; (with_reducible refine (CJ.out _).mono ?_); rintro e wn ⟨rfl, hb⟩; replace HW := goodN HW hb; clear hb)
              | (go_at_call 18; (with_reducible refine (UXD.out _ HW.out.mx).mono ?_); rintro e wn ⟨rfl, hb⟩; replace HW := goodN HW hb; clear hb)
              | (go_at_call 20; (with_reducible refine (XY.out _ HW.out.mx).mono ?_); rintro e wn ⟨rfl, hb⟩; replace HW := goodN HW hb; clear hb)
              | (go_at_call 20; (with_reducible refine (YX.out _ HW.out.mx).mono ?_); rintro e wn ⟨rfl, hb⟩; replace HW := goodN HW hb; clear hb)
              | (go_at_call 20; (with_reducible refine (YZ.out _ HW.out.mx).mono ?_); rintro e wn ⟨rfl, hb⟩; replace HW := goodN HW hb; clear hb)
              | (go_at_call 20; (with_reducible refine (XZ.out _ HW.out.mx).mono ?_); rintro e wn ⟨rfl, hb⟩; replace HW := goodN HW hb; clear hb)
              | (go_at_call 18; (with_reducible refine (UYX.out _ HW.out.mx).mono ?_); rintro e wn ⟨rfl, hb⟩; replace HW := goodN HW hb; clear hb)
              | (go_at_call 18; (with_reducible refine (UZX.out _ HW.out.mx).mono ?_); rintro e wn ⟨rfl, hb⟩; replace HW := goodN HW hb; clear hb)
              | (go_at_call 6; (with_reducible refine (AW.out _ HW.out.mx).mono ?_); rintro e wn ⟨rfl, hb⟩; replace HW := goodN HW hb; clear hb))
          go_ret
          exact ⟨rfl, HW.out.bl⟩
        · have e0 := HEN.out hx0
          have UXD2 := Lib.hid (UXD.out hx0)
          clear hx0 UXD
          go_wp2_with (first
          | (go_at_call 16; (with_reducible refine (CJ.out _).mono ?_); rintro e wn ⟨rfl, hb⟩; replace HW := goodN HW hb; clear hb)
              | (go_at_call 18; (with_reducible refine (UXD2.out _ HW.out.mx).mono ?_); rintro e wn ⟨rfl, hb⟩; replace HW := goodN HW hb; clear hb)
              | (go_at_call 20; (with_reducible refine (XY.out _ HW.out.mx).mono ?_); rintro e wn ⟨rfl, hb⟩; replace HW := goodN HW hb; clear hb)
              | (go_at_call 20; (with_reducible refine (YX.out _ HW.out.mx).mono ?_); rintro e wn ⟨rfl, hb⟩; replace HW := goodN HW hb; clear hb)
              | (go_at_call 20; (with_reducible refine (YZ.out _ HW.out.mx).mono ?_); rintro e wn ⟨rfl, hb⟩; replace HW := goodN HW hb; clear hb)
              | (go_at_call 20; (with_reducible refine (XZ.out _ HW.out.mx).mono ?_); rintro e wn ⟨rfl, hb⟩; replace HW := goodN HW hb; clear hb)
              | (go_at_call 18; (with_reducible refine (UYX.out _ HW.out.mx).mono ?_); rintro e wn ⟨rfl, hb⟩; replace HW := goodN HW hb; clear hb)
              | (go_at_call 18; (with_reducible refine (UZX.out _ HW.out.mx).mono ?_); rintro e wn ⟨rfl, hb⟩; replace HW := goodN HW hb; clear hb)
              | (go_at_call 6; (with_reducible refine (AW.out _ HW.out.mx).mono ?_); rintro e wn ⟨rfl, hb⟩; replace HW := goodN HW hb; clear hb))
          go_ret
          exact ⟨rfl, HW.out.bl⟩
      · have exy : (sx'.toList == ty.toList) = false := by rw [HXY.out, decide_eq_false fun e => hxy1 (hxy.out.2 e)]
        clear HCS hxy1
        by_cases hx0 : x = []
        · obtain ⟨e0, e0'⟩ := HEE.out hx0
          have e0y := exy
          rw [e0', nil_beq] at e0y
          clear hx0
          go_wp2_with (first
          | (go_at_call 16; (with_reducible refine (CJ.out _).mono ?_); rintro e wn ⟨rfl, hb⟩; replace HW := goodN HW hb; clear hb)
              | (go_at_call 18; (with_reducible refine (UXD.out _ HW.out.mx).mono ?_); rintro e wn ⟨rfl, hb⟩; replace HW := goodN HW hb; clear hb)
              | (go_at_call 20; (with_reducible refine (XY.out _ HW.out.mx).mono ?_); rintro e wn ⟨rfl, hb⟩; replace HW := goodN HW hb; clear hb)
              | (go_at_call 20; (with_reducible refine (YX.out _ HW.out.mx).mono ?_); rintro e wn ⟨rfl, hb⟩; replace HW := goodN HW hb; clear hb)
              | (go_at_call 20; (with_reducible refine (YZ.out _ HW.out.mx).mono ?_); rintro e wn ⟨rfl, hb⟩; replace HW := goodN HW hb; clear hb)
              | (go_at_call 20; (with_reducible refine (XZ.out _ HW.out.mx).mono ?_); rintro e wn ⟨rfl, hb⟩; replace HW := goodN HW hb; clear hb)
              | (go_at_call 18; (with_reducible refine (UYX.out _ HW.out.mx).mono ?_); rintro e wn ⟨rfl, hb⟩; replace HW := goodN HW hb; clear hb)
              | (go_at_call 18; (with_reducible refine (UZX.out _ HW.out.mx).mono ?_); rintro e wn ⟨rfl, hb⟩; replace HW := goodN HW hb; clear hb)
              | (go_at_call 6; (with_reducible refine (AW.out _ HW.out.mx).mono ?_); rintro e wn ⟨rfl, hb⟩; replace HW := goodN HW hb; clear hb))
          go_ret
          exact ⟨rfl, HW.out.bl⟩
        · have e0 := HEN.out hx0
          have UXD2 := Lib.hid (UXD.out hx0)
          clear hx0 UXD
          go_wp2_with (first
          | (go_at_call 16; (with_reducible refine (CJ.out _).mono ?_); rintro e wn ⟨rfl, hb⟩; replace HW := goodN HW hb; clear hb)
              | (go_at_call 18; (with_reducible refine (UXD2.out _ HW.out.mx).mono ?_); rintro e wn ⟨rfl, hb⟩; replace HW := goodN HW hb; clear hb)
              | (go_at_call 20; (with_reducible refine (XY.out _ HW.out.mx).mono ?_); rintro e wn ⟨rfl, hb⟩; replace HW := goodN HW hb; clear hb)
              | (go_at_call 20; (with_reducible refine (YX.out _ HW.out.mx).mono ?_); rintro e wn ⟨rfl, hb⟩; replace HW := goodN HW hb; clear hb)
              | (go_at_call 20; (with_reducible refine (YZ.out _ HW.out.mx).mono ?_); rintro e wn ⟨rfl, hb⟩; replace HW := goodN HW hb; clear hb)
              | (go_at_call 20; (with_reducible refine (XZ.out _ HW.out.mx).mono ?_); rintro e wn ⟨rfl, hb⟩; replace HW := goodN HW hb; clear hb)
              | (go_at_call 18; (with_reducible refine (UYX.out _ HW.out.mx).mono ?_); rintro e wn ⟨rfl, hb⟩; replace HW := goodN HW hb; clear hb)
              | (go_at_call 18; (with_reducible refine (UZX.out _ HW.out.mx).mono ?_); rintro e wn ⟨rfl, hb⟩; replace HW := goodN HW hb; clear hb)
              | (go_at_call 6; (with_reducible refine (AW.out _ HW.out.mx).mono ?_); rintro e wn ⟨rfl, hb⟩; replace HW := goodN HW hb; clear hb))
          go_ret
          exact ⟨rfl, HW.out.bl⟩
end Go.Proofs.YtlkhpfokmcpeiaaDoor

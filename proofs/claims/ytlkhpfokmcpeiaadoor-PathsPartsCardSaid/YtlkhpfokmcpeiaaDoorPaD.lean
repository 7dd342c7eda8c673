/- Layer 7: the reference's join, isName, Is. -/
import Derived.Test.YtlkhpfokmcpeiaaDoorPaC
namespace Go.Proofs.YtlkhpfokmcpeiaaDoor
open Go.RowKit
set_option linter.unusedVariables false
set_option maxRecDepth 100000

theorem joinP_app_le (r t : List (List UInt8)) : (joinP r).length ≤ (joinP (r ++ t)).length := by
  induction t generalizing r with
  | nil => simp
  | cons q t ih =>
    have := ih (r ++ [q])
    rw [List.append_assoc] at this
    refine Nat.le_trans ?_ this
    by_cases hr : r = []
    · subst hr; simp [joinP]
    · rw [joinP_snoc r q hr]; simp
theorem joinP_take_le (r : List (List UInt8)) (k : Nat) : (joinP (r.take k)).length ≤ (joinP r).length := by
  have := joinP_app_le (r.take k) (r.drop k)
  rwa [List.take_append_drop] at this

set_option maxHeartbeats 2000000 in
theorem refjoin_any (ls : List (List UInt8)) (a : Option Addr) (c : Nat) (w : World) (hS : SlAt w a ls) (hn : ls.length ≤ 1099511627776) (hj : (joinP ls).length ≤ 1099511627776) :
    Calls Tryd.prog 26 #[.slice a ls.length c] w fun e w' => e = .returned (.string (bs (joinP ls))) ∧ w = w' := by
  have HS := Lib.hid hS
  clear hS
  obtain ⟨n, hnn⟩ : ∃ n, n = ls.length := ⟨_, rfl⟩
  rw [← hnn] at hn ⊢
  have HN := Lib.hid hnn
  clear hnn
  go_enter Tryd.func26, Tryd.ntmps26
  go_wp2_with fail
  go_loop [3, 4] (fun s i => ∃ (k : Nat), i = .int .i64 k ∧ k ≤ n ∧ s = .string (bs (joinP (ls.take k)))) (fun _ i => n - (intOf i).toNat)
  case atStart => exact ⟨0, rfl, Nat.zero_le _, rfl⟩
  case round =>
    obtain ⟨k, rfl, hk, rfl⟩ := hrel
    have hb := joinP_take_le ls k
    have hb2 := joinP_take_le ls (k + 1)
    by_cases hlt : k < n
    · rcases HS.out with h | ⟨b, o, rfl, hw, hc⟩
      · exact absurd hlt (by rw [HN.out, h]; simp)
      have hk' : k < ls.length := by rw [← HN.out]; exact hlt
      have hx := hc k hk'
      have HT : Hid (ls.take (k + 1) = ls.take k ++ [ls[k]]) := List.take_succ_eq_append_getElem hk'
      generalize ls[k] = x at hx HT
      clear hc
      rw [HT.out] at hb2
      by_cases h0 : k = 0
      · have hp : ¬ 0 < k := by omega
        have e1 : joinP (ls.take k) = [] := by subst h0; rfl
        have e2 : ls.take k = [] := by subst h0; rfl
        rw [e2] at hb2
        have hxl : x.length ≤ 1099511627776 := by simp [joinP] at hb2; omega
        have HA := fun w0 => bs_add w0 [] x (by simp; omega)
        rw [e1] at hb ⊢
        have HJ : Hid (joinP (ls.take (k + 1)) = x) := by show _ = _; rw [HT.out, e2]; rfl
        clear hb hb2 e1 e2 h0
        go_wp2_with fail
        go_round
        case rel => exact ⟨k + 1, by go_num, by omega, by rw [HJ.out]⟩
        case measure => simp [intOf]; omega
      · have hpos : 0 < k := by omega
        have hne : ls.take k ≠ [] := by
          intro e
          have := congrArg List.length e
          rw [List.length_take] at this; simp only [List.length_nil] at this; omega
        have HJ : Hid (joinP (ls.take (k + 1)) = joinP (ls.take k) ++ 47 :: x) := by show _ = _; rw [HT.out, joinP_snoc _ _ hne]
        rw [joinP_snoc _ _ hne] at hb2
        generalize joinP (ls.take k) = J at *
        simp only [List.length_append, List.length_cons] at hb2
        have HA : ∀ w0, (Op.stringOp .add (bs J) ⟨#[47]⟩).run Tryd.prog w0 = .ok (.string (bs (J ++ [47]))) w0 := fun w0 => bs_add w0 J [47] (by simp; omega)
        have HB := fun w0 => bs_add w0 (J ++ [47]) x (by simp; omega)
        clear hne hb2 hb h0
        go_wp2_with fail
        go_round
        case rel => exact ⟨k + 1, by go_num, by omega, by rw [HJ.out]⟩
        case measure => simp [intOf]; omega
    · have hks : k = n := by omega
      subst hks
      have HE : Hid (joinP (ls.take k) = joinP ls) := by show _ = _; rw [List.take_of_length_le (by rw [HN.out]; exact Nat.le_refl _)]
      go_wp2_with fail
      go_ret
      exact ⟨by first | rfl | (rw [HE.out]; rfl), rfl⟩

/-- What the reference takes for a name. -/
def nameR (p : List UInt8) : Bool := !p.contains 0 && !p.contains 47 && decide (1 ≤ p.length) && decide (p.length ≤ 32) && !decide (p = [46]) && !decide (p = [46, 46])
theorem nameR_eq {p : List UInt8} (h : NoSl p) : nameR p = nameB p := by
  have h47 : p.contains 47 = false := by
    cases hc : p.contains 47 with
    | false => rfl
    | true => exact absurd (by simpa using hc) h
  unfold nameR nameB forbB
  rw [h47]
  cases p with
  | nil => rfl
  | cons c l =>
    simp only [List.length_cons, reduceCtorEq, decide_false, Bool.false_or, Bool.not_or]
    rw [decide_eq_true (show 1 ≤ l.length + 1 by omega)]
    generalize decide (l.length + 1 ≤ 32) = x1
    generalize decide (c :: l = [46]) = x2
    generalize decide (c :: l = [46, 46]) = x3
    generalize (c :: l).contains 0 = x4
    revert x1 x2 x3 x4; decide
theorem cont_snoc (p : List UInt8) (c d : UInt8) : (p ++ [c]).contains d = (p.contains d || (c == d)) := by
  induction p with
  | nil =>
    by_cases h : c = d
    · subst h; simp
    · simp [h, Ne.symm h]
  | cons a p ih => rw [List.cons_append, List.contains_cons, List.contains_cons, ih, Bool.or_assoc]

set_option maxHeartbeats 2000000 in
theorem refName_any (p : List UInt8) (w : World) (hs : p.length ≤ 1099511627776) :
    Calls Tryd.prog 41 #[.string (bs p)] w fun e w' => e = .returned (.bool (nameR p)) ∧ w = w' := by
  have hsz : (bs p).size = p.length := bs_size p
  have hs' : (bs p).size ≤ 1099511627776 := by omega
  have hlist := bs_list p
  have h3 : ((bs p).toList == [46]) = decide (p = [46]) := by rw [bs_toList, Bool.eq_iff_iff]; simp
  have h4 : ((bs p).toList == [46, 46]) = decide (p = [46, 46]) := by rw [bs_toList, Bool.eq_iff_iff]; simp
  generalize bs p = s at *
  have HL := Lib.hid hlist
  have HZ := Lib.hid hsz
  have H3 := Lib.hid h3
  have H4 := Lib.hid h4
  clear hlist hsz h3 h4
  go_enter Tryd.func41, Tryd.ntmps41
  go_wp2_with fail
  go_loop [3] (fun i => ∃ (k : Nat), i = .int .i64 k ∧ k ≤ s.size ∧ Hid ((p.take k).contains 0 = false ∧ (p.take k).contains 47 = false)) (fun i => s.size - (intOf i).toNat)
  case atStart => exact ⟨0, rfl, Nat.zero_le _, rfl, rfl⟩
  case round =>
    obtain ⟨k, rfl, hk, hno⟩ := hrel
    by_cases hlt : k < s.size
    · have hpk : k < p.length := by rw [← HZ.out]; exact hlt
      have ht : p.take (k + 1) = p.take k ++ [p[k]] := List.take_succ_eq_append_getElem hpk
      have hd : p = p.take k ++ p[k] :: p.drop (k + 1) := by rw [← List.drop_eq_getElem_cons hpk, List.take_append_drop]
      have hx : s[k] = p[k] := by
        have := Lib.data_getElem? s k hlt
        rw [HL.out, List.getElem?_eq_getElem hpk] at this
        exact (Option.some.inj this).symm
      generalize hy : p[k] = y at *
      clear hy
      have HT := Lib.hid ht
      have HD := Lib.hid hd
      clear ht hd
      by_cases h0 : y = 0
      · have e0 : ((s[k].toNat : Int) == 0) = true := by rw [hx, h0]; rfl
        have HR : Hid (nameR p = false) := by
          show _ = _
          unfold nameR
          have : p.contains 0 = true := by rw [HD.out, h0]; simp
          rw [this]; rfl
        clear hx h0
        go_wp2_with fail
        go_ret
        exact ⟨by rw [HR.out]; rfl, rfl⟩
      · have e0 : ((s[k].toNat : Int) == 0) = false := by
          rw [hx, beq_eq_false_iff_ne]; intro e; apply h0; apply UInt8.toNat_inj.1; show _ = 0; omega
        by_cases h47 : y = 47
        · have e47 : ((s[k].toNat : Int) == 47) = true := by rw [hx, h47]; rfl
          have HR : Hid (nameR p = false) := by
            show _ = _
            unfold nameR
            have : p.contains 47 = true := by rw [HD.out, h47]; simp
            rw [this]; simp
          clear hx h47 h0
          go_wp2_with fail
          go_ret
          exact ⟨by rw [HR.out]; rfl, rfl⟩
        · have e47 : ((s[k].toNat : Int) == 47) = false := by
            rw [hx, beq_eq_false_iff_ne]; intro e; apply h47; apply UInt8.toNat_inj.1; show _ = 47; omega
          have HK : Hid ((p.take (k + 1)).contains 0 = false ∧ (p.take (k + 1)).contains 47 = false) := by
            show _ ∧ _
            rw [HT.out, cont_snoc, cont_snoc, hno.out.1, hno.out.2]
            simp [h0, h47]
          clear hx h47 h0
          go_wp2_with fail
          go_round
          case rel => exact ⟨k + 1, by go_num, by omega, HK.out⟩
          case measure => simp [intOf]; omega
    · have hks : k = s.size := by omega
      have hno2 := hno.out
      rw [hks, List.take_of_length_le (by rw [HZ.out]; exact Nat.le_refl _)] at hno2
      have HR : Hid (nameR p = (decide (1 ≤ s.size) && decide (s.size ≤ 32) && !(s.toList == [46]) && !(s.toList == [46, 46]))) := by
        show _ = _
        unfold nameR
        rw [hno2.1, hno2.2, H3.out, H4.out, HZ.out]; rfl
      clear hno2 hno hlt
      have e3' : (s.toList != [46]) = !(s.toList == [46]) := rfl
      have e4' : (s.toList != [46, 46]) = !(s.toList == [46, 46]) := rfl
      generalize hb3 : (s.toList == [46]) = b3 at *
      generalize hb4 : (s.toList == [46, 46]) = b4 at *
      subst hks
      by_cases h1 : 1 ≤ s.size
      · by_cases h2 : s.size ≤ 32
        · have HR2 : Hid (nameR p = (!b3 && !b4)) := by show _ = _; rw [HR.out, decide_eq_true h1, decide_eq_true h2]; rfl
          cases b3 <;> cases b4
          all_goals
            go_wp2_with fail
            go_ret
            exact ⟨by rw [HR2.out]; rfl, rfl⟩
        · have HR2 : Hid (nameR p = false) := by show _ = _; rw [HR.out, decide_eq_false h2]; simp
          have h2' : decide (s.size ≤ 32) = false := decide_eq_false h2
          go_wp2_with fail
          go_ret
          exact ⟨by rw [HR2.out]; rfl, rfl⟩
      · have HR2 : Hid (nameR p = false) := by show _ = _; rw [HR.out, decide_eq_false h1]; simp
        have h2' : decide (1 ≤ s.size) = false := decide_eq_false h1
        go_wp2_with fail
        go_ret
        exact ⟨by rw [HR2.out]; rfl, rfl⟩
end Go.Proofs.YtlkhpfokmcpeiaaDoor

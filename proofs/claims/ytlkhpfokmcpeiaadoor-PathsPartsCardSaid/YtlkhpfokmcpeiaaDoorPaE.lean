/- Layer 7: the reference's Is, Clean, Split, Join. -/
import Derived.Test.YtlkhpfokmcpeiaaDoorPaD
namespace Go.Proofs.YtlkhpfokmcpeiaaDoor
open Go.RowKit
set_option linter.unusedVariables false
set_option maxRecDepth 100000

def isR (p : List UInt8) : Bool := (partsL p).all nameR && decide ((partsL p).length ≤ 8) && decide (p.length ≤ 96)
theorem all_snoc (ls : List (List UInt8)) (x : List UInt8) (f : List UInt8 → Bool) : (ls ++ [x]).all f = (ls.all f && f x) := by simp

set_option maxHeartbeats 2000000 in
theorem refIs_any (p : List UInt8) (w : World) (hs : p.length ≤ 1099511627775) :
    Calls Tryd.prog 27 #[.string (bs p)] w fun e w' => e = .returned (.bool (isR p)) ∧ Below w.heap.size w w' := by
  have HP : Hid (∀ w0, Calls Tryd.prog 15 #[.string (bs p)] w0 (RetSl w0 (partsL p))) := fun w0 => by
    have := refParts_any (bs p) w0 (by rw [bs_size]; omega)
    rwa [bs_list] at this
  obtain ⟨O, hO⟩ : ∃ O, O = isR p := ⟨_, rfl⟩
  rw [← hO]
  unfold isR at hO
  have hml := parts_len_mem p
  have hpl := parts_len p
  have hsz : (bs p).size = p.length := bs_size p
  generalize partsL p = ls at *
  generalize bs p = s at *
  rw [← hsz] at hO hml hpl hs
  have HO := Lib.hid hO
  have HM := Lib.hid hml
  clear hO hml hsz
  go_enter Tryd.func27, Tryd.ntmps27
  go_wp2_with (go_at_call 15; (with_reducible refine (HP.out _).mono ?_); rintro e w1 ⟨v, rfl, hsl, hb⟩)
  obtain ⟨a, c, rfl, hc1, hc2, hSl⟩ := hsl
  have HB := Lib.hid hb
  have HS := Lib.hid hSl
  clear hb hSl hc1 hc2
  obtain ⟨n, hnn⟩ : ∃ n, n = ls.length := ⟨_, rfl⟩
  rw [← hnn] at hpl ⊢
  have HN := Lib.hid hnn
  clear hnn
  go_wp2_with fail
  go_loop [4] (fun i => ∃ (k : Nat), i = .int .i64 k ∧ k ≤ n ∧ Hid ((ls.take k).all nameR = true)) (fun i => n - (intOf i).toNat)
  case atStart => exact ⟨0, rfl, Nat.zero_le _, rfl⟩
  case round =>
    obtain ⟨k, rfl, hk, hall⟩ := hrel
    by_cases hlt : k < n
    · rcases HS.out with h | ⟨b, o, rfl, hw, hc⟩
      · exact absurd hlt (by rw [HN.out, h]; simp)
      have hk' : k < ls.length := by rw [← HN.out]; exact hlt
      have hx := hc k hk'
      have HT : Hid (ls.take (k + 1) = ls.take k ++ [ls[k]]) := List.take_succ_eq_append_getElem hk'
      have hxl := HM.out ls[k] (List.getElem_mem hk')
      have hmem : ls[k] ∈ ls := List.getElem_mem hk'
      generalize ls[k] = x at hx HT hxl hmem
      clear hc
      cases hnx : nameR x with
      | true =>
        have HR : Hid (∀ w0, Calls Tryd.prog 41 #[.string (bs x)] w0 fun e w' => e = .returned (.bool true) ∧ w0 = w') := fun w0 => by
          have := refName_any x w0 (by omega)
          rwa [hnx] at this
        have HK : Hid ((ls.take (k + 1)).all nameR = true) := by show _ = _; rw [HT.out, all_snoc, hall.out, hnx]; rfl
        clear hnx
        go_wp2_with (go_at_call 41; (with_reducible refine (HR.out _).mono ?_); rintro e w2 ⟨rfl, rfl⟩)
        go_round
        case rel => exact ⟨k + 1, by go_num, by omega, HK.out⟩
        case measure => simp [intOf]; omega
      | false =>
        have HR : Hid (∀ w0, Calls Tryd.prog 41 #[.string (bs x)] w0 fun e w' => e = .returned (.bool false) ∧ w0 = w') := fun w0 => by
          have := refName_any x w0 (by omega)
          rwa [hnx] at this
        have HE : Hid (O = false) := by
          show _ = _
          rw [HO.out]
          have : ls.all nameR = false := by
            cases h : ls.all nameR with
            | false => rfl
            | true => rw [List.all_eq_true.1 h x hmem] at hnx; cases hnx
          rw [this]; rfl
        clear hnx hmem
        go_wp2_with (go_at_call 41; (with_reducible refine (HR.out _).mono ?_); rintro e w2 ⟨rfl, rfl⟩)
        go_ret
        exact ⟨by rw [HE.out]; rfl, HB.out⟩
    · have hks : k = n := by omega
      have HE : Hid (O = (decide (n ≤ 8) && decide (s.size ≤ 96))) := by
        show _ = _
        have h2 := hall.out
        rw [hks, HN.out, List.take_length] at h2
        rw [HO.out, h2, HN.out]; rfl
      by_cases h1 : n ≤ 8
      · by_cases h2 : s.size ≤ 96
        · have HE2 : Hid (O = true) := by show _ = _; rw [HE.out, decide_eq_true h1, decide_eq_true h2]; rfl
          go_wp2_with fail
          go_ret
          exact ⟨by rw [HE2.out]; first | rfl | exact ret_bool (decide_eq_true (by omega)) | exact ret_bool (decide_eq_false (by omega)), HB.out⟩
        · have HE2 : Hid (O = false) := by show _ = _; rw [HE.out, decide_eq_false h2]; simp
          have h3 : decide (s.size ≤ 96) = false := decide_eq_false h2
          go_wp2_with fail
          go_ret
          exact ⟨by rw [HE2.out]; first | rfl | exact ret_bool (decide_eq_true (by omega)) | exact ret_bool (decide_eq_false (by omega)), HB.out⟩
      · have HE2 : Hid (O = false) := by show _ = _; rw [HE.out, decide_eq_false h1]; simp
        have h3 : decide (n ≤ 8) = false := decide_eq_false h1
        go_wp2_with fail
        go_ret
        exact ⟨by rw [HE2.out]; first | rfl | exact ret_bool (decide_eq_true (by omega)) | exact ret_bool (decide_eq_false (by omega)), HB.out⟩

/-- What Clean answers. -/
def pairC : Option (List UInt8) → Value
  | some p => .tuple #[.string (bs p), .int .i64 0]
  | none => .tuple #[.string (bs []), .int .i64 2]
theorem names_of_parts (l : List UInt8) : (partsL l).filter keepB = namesL l := by
  unfold partsL; split
  · next h => subst h; rfl
  · rfl
theorem good_is (l : List UInt8) : isR (joinP (namesL l)) = goodL (namesL l) := by
  unfold isR goodL
  rw [names_parts l]
  have : (namesL l).all nameR = (namesL l).all nameB := by
    have h := names_noSl l
    generalize namesL l = ns at h
    rw [Bool.eq_iff_iff, List.all_eq_true, List.all_eq_true]
    constructor
    · intro hh p hp; rw [← nameR_eq (h p hp)]; exact hh p hp
    · intro hh p hp; rw [nameR_eq (h p hp)]; exact hh p hp
  rw [this]
theorem joinP_filter_le (ls : List (List UInt8)) (f : List UInt8 → Bool) : (joinP (ls.filter f)).length ≤ (joinP ls).length := by
  have key : ∀ (ls : List (List UInt8)), (joinP (ls.filter f)).length + (if ls.filter f = [] then 0 else 1) ≤ (joinP ls).length + (if ls = [] then 0 else 1) := by
    intro ls
    induction ls with
    | nil => simp
    | cons p r ih =>
      have hc : (joinP (p :: r)).length = p.length + (joinP r).length + (if r = [] then 0 else 1) := by
        cases r with
        | nil => simp [joinP]
        | cons q r => rw [joinP_two _ _ (by simp)]; simp; omega
      rw [hc]
      by_cases hf : f p = true
      · rw [List.filter_cons_of_pos hf]
        have hc2 : (joinP (p :: r.filter f)).length = p.length + (joinP (r.filter f)).length + (if r.filter f = [] then 0 else 1) := by
          cases hr : r.filter f with
          | nil => simp [joinP]
          | cons q t => rw [joinP_two _ _ (by simp)]; simp; omega
        rw [hc2]
        generalize r.filter f = rf at *
        rw [if_neg (by simp : ¬ p :: rf = []), if_neg (by simp : ¬ p :: r = [])]
        omega
      · rw [List.filter_cons_of_neg hf]
        generalize r.filter f = rf at *
        rw [if_neg (by simp : ¬ p :: r = [])]
        omega
  have := key ls
  cases h : ls.filter f with
  | nil => simp [joinP]
  | cons a t =>
    rw [h] at this
    have hne : ls ≠ [] := by rintro rfl; simp at h
    simp [hne] at this
    omega

set_option maxHeartbeats 4000000 in
theorem refClean_any (l : List UInt8) (w : World) (hs : l.length ≤ 1099511620000) :
    Calls Tryd.prog 8 #[.string (bs l)] w fun e w' => e = .returned (pairC (cleanL l)) ∧ Below w.heap.size w w' := by
  obtain ⟨i0, hi, hz0, hz1, hz2⟩ := info_parts infoS
  have HP : Hid (∀ w0, Calls Tryd.prog 15 #[.string (bs l)] w0 (RetSl w0 (partsL l))) := fun w0 => by
    have := refParts_any (bs l) w0 (by rw [bs_size]; omega)
    rwa [bs_list] at this
  have hpl := parts_len l
  have hjl := joinP_filter_le (partsL l) keepB
  rw [join_parts] at hjl
  have hNames := names_of_parts l
  have HNL : Hid ((namesL l).length ≤ l.length + 1) := by
    show _ ≤ _
    rw [← hNames]; exact Nat.le_trans (List.length_filter_le _ _) (parts_len l)
  generalize hls : partsL l = ls at *
  have HNM := Lib.hid hNames
  have HJL := Lib.hid hjl
  clear hNames hjl hls
  obtain ⟨n, hnn⟩ : ∃ n, n = ls.length := ⟨_, rfl⟩
  have HN := Lib.hid hnn
  go_enter Tryd.func8, Tryd.ntmps8
  go_wp2_with (go_at_call 15; (with_reducible refine (HP.out _).mono ?_); rintro e w1 ⟨v, rfl, hsl, hb⟩)
  obtain ⟨a, c, rfl, hc1, hc2, hSl⟩ := hsl
  have HB := Lib.hid hb
  have HS := Lib.hid hSl
  have hw1 := hb.size
  clear hb hSl hc1 hc2
  rw [← hnn] at hpl ⊢
  clear hnn
  go_wp2_with fail
  go_loopw [5, 6] (fun v i wr => ∃ (k : Nat) (acc : List (List UInt8)), i = .int .i64 k ∧ k ≤ n ∧ acc.length ≤ k ∧ Hid (acc = (ls.take k).filter keepB) ∧ wr.ownsRow w1.heap.size 9 1 v acc.length (strs acc) ∧ Hid (Below w1.heap.size w1 wr) ∧ w1.heap.size ≤ wr.heap.size) (fun _ i _ => n - (intOf i).toNat)
  case atStart => exact ⟨0, [], rfl, Nat.zero_le _, Nat.le_refl _, rfl, World.ownsRow_nil _ _ _ _, Below.refl _ _, Nat.le_refl _⟩
  case round =>
    obtain ⟨k, acc, rfl, hk, hal, hacc, hown, hbel, hsize⟩ := hrel
    by_cases hlt : k < n
    · rcases HS.out.below hbel.out with h | ⟨b, o, rfl, hw, hc⟩
      · exact absurd hlt (by rw [HN.out, h]; simp)
      have hk' : k < ls.length := by rw [← HN.out]; exact hlt
      have hx := hc k hk'
      have HT : Hid (ls.take (k + 1) = ls.take k ++ [ls[k]]) := List.take_succ_eq_append_getElem hk'
      generalize ls[k] = x at hx HT
      clear hc
      have HF : Hid ((ls.take (k + 1)).filter keepB = acc ++ if keepB x then [x] else []) := by
        show _ = _
        rw [HT.out, List.filter_append, ← hacc.out, List.filter_cons]; rfl
      have t1 : ((bs x).toList == [46]) = decide (x = [46]) := by rw [bs_toList, Bool.eq_iff_iff]; simp
      by_cases h0 : x = []
      · have hx0 : (bs x).toList.isEmpty = true := by rw [bs_toList, h0]; rfl
        have hx1 : (bs x).toList = [] := by rw [bs_toList, h0]
        have HF2 : Hid ((ls.take (k + 1)).filter keepB = acc) := by show _ = _; rw [HF.out, h0]; simp [keepB]
        clear h0
        go_wp2_with fail
        go_roundw
        case rel => exact ⟨k + 1, acc, by go_num, by omega, by omega, by show _ = _; rw [HF2.out], hown, hbel.out, hsize⟩
        case measure => simp [intOf]; omega
      · have hx0 : (bs x).toList.isEmpty = false := by rw [bs_toList]; cases x with | nil => exact absurd rfl h0 | cons => rfl
        by_cases h1 : x = [46]
        · have hx1 : ((bs x).toList == [46]) = true := by rw [t1, h1]; rfl
          have hx2 : ((bs x).toList != [46]) = false := by show (!((bs x).toList == [46])) = false; rw [hx1]; rfl
          have HF2 : Hid ((ls.take (k + 1)).filter keepB = acc) := by show _ = _; rw [HF.out, h1]; simp [keepB]
          clear h1 h0 t1
          go_wp2_with fail
          go_roundw
          case rel => exact ⟨k + 1, acc, by go_num, by omega, by omega, by show _ = _; rw [HF2.out], hown, hbel.out, hsize⟩
          case measure => simp [intOf]; omega
        · have hx1 : ((bs x).toList == [46]) = false := by rw [t1, decide_eq_false h1]
          have hx2 : ((bs x).toList != [46]) = true := by show (!((bs x).toList == [46])) = true; rw [hx1]; rfl
          have HF2 : Hid ((ls.take (k + 1)).filter keepB = acc ++ [x]) := by show _ = _; rw [HF.out]; unfold keepB; rw [decide_eq_false h0, decide_eq_false h1]; rfl
          clear h1 h0 t1
          go_wp2_with (at_builtin; refine wpList_append_own _ rfl (.tmp 28) (.tmp 33) 32 rfl w1.heap.size 9 i0 (.string ByteArray.empty) 1 16 Tryd.underlying32 hi hz0 hz1 hz2 rfl (by decide) u5 acc.length (strs acc) rfl (hown.alloc _) ⟨wr.heap.size, 0, none⟩ 1 1 [.string (bs x)] rfl rfl ?c1 ?c2 ?c3 ?c4 ?c5 ?_)
          case c1 => exact one_newS _ _
          case c2 => intro u hu; simp at hu; subst hu; rfl
          case c3 => unfold maxLen; omega
          case c4 => omega
          case c5 => simp; omega
          intro v1 w2 hown1 hgrow1 _
          obtain ⟨own1, bel1, siz1⟩ := snoc_own hsize hbel.out hown hown1 hgrow1
          have B1 := Lib.hid bel1
          clear hown1 hgrow1 hown hbel bel1
          go_wp2_with fail
          go_roundw
          case rel => exact ⟨k + 1, acc ++ [x], by go_num, by omega, by simp; omega, by show _ = _; rw [HF2.out], own1, B1.out, siz1⟩
          case measure => simp [intOf]; omega
    · have hks : k = n := by omega
      have HAcc : Hid (acc = namesL l) := by
        show _ = _
        rw [hacc.out, hks, HN.out, List.take_length]; exact HNM.out
      obtain ⟨a2, c2, hv, q1, q2, hS2⟩ := Sl_own hown
      subst hv
      have HB2 := Lib.hid (HB.out.trans (hbel.out.mono hw1))
      have HJ := Lib.hid (fun w0 (hS : SlAt w0 a2 acc) => refjoin_any acc a2 c2 w0 hS (by rw [HAcc.out]; have := HNL.out; omega) (by rw [HAcc.out]; have := HJL.out; rw [HNM.out] at this; omega))
      have HS2 := Lib.hid hS2
      have HI := Lib.hid (fun w0 => refIs_any (joinP acc) w0 (by rw [HAcc.out]; have := HJL.out; rw [HNM.out] at this; omega))
      have HG : Hid (isR (joinP acc) = goodL (namesL l)) := by show _ = _; rw [HAcc.out]; exact good_is l
      have HR : Hid (joinP acc = joinP (namesL l)) := by show _ = _; rw [HAcc.out]
      generalize joinP acc = P at HJ HI HG HR
      clear hS2 hown hacc hk hal hlt
      have hL : l.length ≤ 1099511620000 := hs
      by_cases hl0 : l = []
      · have HC : Hid (cleanL l = if isR P then some P else none) := by show _ = _; rw [HG.out, HR.out]; subst hl0; rfl
        have e0 : (bs l).toList.isEmpty = true := by rw [bs_toList, hl0]; rfl
        have e1 : (bs l).toList = [] := by rw [bs_toList, hl0]
        clear hl0 HP
        generalize bs l = s at *
        generalize isR P = g at HI HC
        cases g
        all_goals
          go_wp2_with (first
            | (go_at_call 26; (with_reducible refine (HJ.out _ HS2.out).mono ?_); rintro e w2 ⟨rfl, rfl⟩)
            | (go_at_call 27; (with_reducible refine (HI.out _).mono ?_); rintro e w2 ⟨rfl, hb2⟩; have HB3 := Lib.hid hb2; clear hb2))
          go_ret2
          exact ⟨by rw [HC.out]; rfl, HB2.out.trans (HB3.out.mono (by omega))⟩
      · have e0 : (bs l).toList.isEmpty = false := by rw [bs_toList]; cases l with | nil => exact absurd rfl hl0 | cons => rfl
        have hsz : 0 < (bs l).size := by rw [bs_size]; exact List.length_pos_iff.2 hl0
        have hx : ((bs l)[0]'hsz).toNat = 47 ↔ l.head? = some 47 := by
          have := Lib.data_getElem? (bs l) 0 hsz
          rw [bs_list] at this
          cases l with
          | nil => exact absurd rfl hl0
          | cons x t =>
            simp at this
            rw [← this]; simp
            constructor
            · intro h; exact UInt8.toNat_inj.1 h
            · intro h; rw [h]; rfl
        by_cases h47 : l.head? = some 47
        · have HC : Hid (cleanL l = none) := by show _ = _; unfold cleanL; rw [if_pos h47]
          have e2 : (((bs l)[0]'hsz).toNat : Int) = 47 := by have := hx.2 h47; omega
          have e3 : ((((bs l)[0]'hsz).toNat : Int) == 47) = true := beq_iff_eq.2 e2
          clear hx h47 hl0 HP e2
          generalize bs l = s at *
          go_wp2_with (go_at_call 26; (with_reducible refine (HJ.out _ HS2.out).mono ?_); rintro e w2 ⟨rfl, rfl⟩)
          go_ret2
          exact ⟨by rw [HC.out]; rfl, HB2.out⟩
        · have HC : Hid (cleanL l = if isR P then some P else none) := by show _ = _; unfold cleanL; rw [if_neg h47, HG.out, HR.out]
          have e3 : ((((bs l)[0]'hsz).toNat : Int) == 47) = false := by
            rw [beq_eq_false_iff_ne]; intro h; exact h47 (hx.1 (by omega))
          clear hx h47 hl0 HP
          generalize bs l = s at *
          generalize isR P = g at HI HC
          cases g
          all_goals
            go_wp2_with (first
              | (go_at_call 26; (with_reducible refine (HJ.out _ HS2.out).mono ?_); rintro e w2 ⟨rfl, rfl⟩)
              | (go_at_call 27; (with_reducible refine (HI.out _).mono ?_); rintro e w2 ⟨rfl, hb2⟩; have HB3 := Lib.hid hb2; clear hb2))
            go_ret2
            exact ⟨by rw [HC.out]; rfl, HB2.out.trans (HB3.out.mono (by omega))⟩
end Go.Proofs.YtlkhpfokmcpeiaaDoor

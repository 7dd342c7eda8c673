/- Contracts of strings.CutPrefix with a digest's letters, of digest.Check and of the reference's Check: whether any text may be a digest. -/
import Derived.Test.YtjmiekhjkeioaaaDoorDstA
namespace Go.Proofs.YtjmiekhjkeioaaaDoor
open Go.RowKit
set_option linter.unusedVariables false

/-- May a text be a digest? -/
def dgOk (t : ByteArray) : Bool := decide (t.size = 71) && ((t.extract 0 7).toList == preL) && (unhexG [] (t.extract 7 t.size).data.toList).isSome
def dgErr (t : ByteArray) : Int := if dgOk t then 0 else 2

theorem cut_short (t : ByteArray) (w : World) (h : t.size < 7) :
    Calls Tryd.prog 20 #[.string t, .string ⟨#[115, 104, 97, 50, 53, 54, 58]⟩] w fun e w' => e = .returned (.tuple #[.string t, .bool false]) ∧ w = w' := by
  have h1 : ¬ (7 : Int) ≤ (t.size : Int) := by omega
  go_enter Tryd.func20, Tryd.ntmps20
  go_wp2
  go_ret2
  exact ⟨rfl, rfl⟩
theorem cut_not (t : ByteArray) (w : World) (h : 7 ≤ t.size) (hb : ((t.extract 0 7).toList == [115, 104, 97, 50, 53, 54, 58]) = false) :
    Calls Tryd.prog 20 #[.string t, .string ⟨#[115, 104, 97, 50, 53, 54, 58]⟩] w fun e w' => e = .returned (.tuple #[.string t, .bool false]) ∧ w = w' := by
  have h1 : (7 : Int) ≤ (t.size : Int) := by omega
  go_enter Tryd.func20, Tryd.ntmps20
  go_wp2
  go_ret2
  exact ⟨rfl, rfl⟩
theorem cut_yes (t : ByteArray) (w : World) (h : 7 ≤ t.size) (hb : ((t.extract 0 7).toList == [115, 104, 97, 50, 53, 54, 58]) = true) :
    Calls Tryd.prog 20 #[.string t, .string ⟨#[115, 104, 97, 50, 53, 54, 58]⟩] w fun e w' => e = .returned (.tuple #[.string (t.extract 7 t.size), .bool true]) ∧ w = w' := by
  have h1 : (7 : Int) ≤ (t.size : Int) := by omega
  go_enter Tryd.func20, Tryd.ntmps20
  go_wp2
  go_ret2
  exact ⟨rfl, rfl⟩

theorem pairS_none : pairS none = .tuple #[.string ⟨#[]⟩, .bool false] := rfl
theorem pairS_some (l : List UInt8) : pairS (some l) = .tuple #[.string ⟨l.toArray⟩, .bool true] := rfl
theorem size_tail (t : ByteArray) (h : 7 ≤ t.size) : (t.extract 7 t.size).size = t.size - 7 := by rw [ByteArray.size_extract]; omega

theorem check_any (t : ByteArray) (w : World) (hs : t.size ≤ maxLen) :
    Calls Tryd.prog 9 #[.string t] w fun e w' => e = .returned (.int .i64 (dgErr t)) ∧ Below w.heap.size w w' := by
  unfold maxLen at hs
  by_cases h7 : t.size < 7
  · have hd : dgErr t = 2 := by unfold dgErr dgOk; rw [decide_eq_false (by omega)]; rfl
    rw [hd]
    clear hd
    go_enter Tryd.func9, Tryd.ntmps9
    go_wp2_with (go_at_call 20; refine (cut_short t _ h7).mono ?_; rintro e w1 ⟨rfl, rfl⟩)
    go_ret
    exact ⟨rfl, Below.refl _ _⟩
  · have h7' : 7 ≤ t.size := by omega
    cases hb : ((t.extract 0 7).toList == [115, 104, 97, 50, 53, 54, 58]) with
    | false =>
      have hd : dgErr t = 2 := by unfold dgErr dgOk preL; rw [hb, Bool.and_false]; rfl
      rw [hd]
      have HB := Lib.hid hb
      clear hd hb
      go_enter Tryd.func9, Tryd.ntmps9
      go_wp2_with (go_at_call 20; refine (cut_not t _ h7' HB.out).mono ?_; rintro e w1 ⟨rfl, rfl⟩)
      go_ret
      exact ⟨rfl, Below.refl _ _⟩
    | true =>
      have HB := Lib.hid hb
      by_cases h71 : t.size = 71
      · have hz : (t.extract 7 t.size).size = 64 := by rw [size_tail t h7']; omega
        have H1 := Lib.hid (fun w0 : World => unhex_any (t.extract 7 t.size) w0 (by omega))
        have C1 := Lib.hid (fun w0 : World => cut_yes t w0 h7' HB.out)
        have hd : dgErr t = if (unhexG [] (t.extract 7 t.size).data.toList).isSome then 0 else 2 := by unfold dgErr dgOk preL; rw [hb, decide_eq_true h71]; simp
        rw [hd]
        clear hd hb
        generalize t.extract 7 t.size = x at H1 C1 hz ⊢
        cases hu : unhexG [] x.data.toList with
        | none =>
          rw [hu, pairS_none] at H1
          clear hu
          go_enter Tryd.func9, Tryd.ntmps9
          go_wp2_with (first
            | (go_at_call 20; refine (C1.out _).mono ?_; rintro e w1 ⟨rfl, rfl⟩)
            | (go_at_call 21; refine (H1.out _).mono ?_; rintro e w2 ⟨rfl, hb2⟩))
          go_ret
          exact ⟨rfl, hb2⟩
        | some l =>
          rw [hu, pairS_some] at H1
          clear hu
          go_enter Tryd.func9, Tryd.ntmps9
          go_wp2_with (first
            | (go_at_call 20; refine (C1.out _).mono ?_; rintro e w1 ⟨rfl, rfl⟩)
            | (go_at_call 21; refine (H1.out _).mono ?_; rintro e w2 ⟨rfl, hb2⟩))
          go_ret
          exact ⟨rfl, hb2⟩
      · have hd : dgErr t = 2 := by unfold dgErr dgOk; rw [decide_eq_false h71]; rfl
        rw [hd]
        have hz : ((((t.extract 7 t.size).size : Nat) : Int) == 64) = false := by rw [size_tail t h7']; simp; omega
        have hz2 : ((((t.extract 7 t.size).size : Nat) : Int) != 64) = true := by rw [size_tail t h7']; simp; omega
        have C1 := Lib.hid (fun w0 : World => cut_yes t w0 h7' HB.out)
        clear hd hb
        generalize t.extract 7 t.size = x at C1 hz hz2 ⊢
        go_enter Tryd.func9, Tryd.ntmps9
        go_wp2_with (go_at_call 20; refine (C1.out _).mono ?_; rintro e w1 ⟨rfl, rfl⟩)
        go_ret
        exact ⟨rfl, Below.refl _ _⟩

set_option maxHeartbeats 1000000 in
theorem refCheck_any (t : ByteArray) (w : World) (hs : t.size ≤ maxLen) :
    Calls Tryd.prog 10 #[.string t] w fun e w' => e = .returned (.int .i64 (dgErr t)) ∧ Below w.heap.size w w' := by
  unfold maxLen at hs
  by_cases h71 : t.size = 71
  · have i71 : ((t.size : Int) != 71) = false := by rw [h71]; rfl
    cases hb : ((t.extract 0 7).toList == [115, 104, 97, 50, 53, 54, 58]) with
    | false =>
      have hd : dgErr t = 2 := by unfold dgErr dgOk preL; rw [hb, Bool.and_false]; rfl
      rw [hd]
      clear hd
      have hn : ((t.extract 0 7).toList != [115, 104, 97, 50, 53, 54, 58]) = true := by unfold bne; rw [hb]; rfl
      have h7 : (7 : Int) ≤ (t.size : Int) := by omega
      clear h71
      go_enter Tryd.func10, Tryd.ntmps10
      go_wp2
      go_ret
      exact ⟨rfl, Below.refl _ _⟩
    | true =>
      have hn : ((t.extract 0 7).toList != [115, 104, 97, 50, 53, 54, 58]) = false := by unfold bne; rw [hb]; rfl
      have hz : (t.extract 7 t.size).size = 64 := by rw [size_tail t (by omega)]; omega
      have H1 := Lib.hid (fun w0 : World => refUnhex_any (t.extract 7 t.size) w0 (by omega))
      have hd : dgErr t = if (unhexG [] (t.extract 7 t.size).data.toList).isSome then 0 else 2 := by unfold dgErr dgOk preL; rw [hb, decide_eq_true h71]; simp
      rw [hd]
      have h7 : (7 : Int) ≤ (t.size : Int) := by omega
      clear hd hz h71
      cases hu : unhexG [] (t.extract 7 t.size).data.toList with
      | none =>
        rw [hu, pairS_none] at H1
        clear hu
        go_enter Tryd.func10, Tryd.ntmps10
        go_wp2_with (go_at_call 22; refine (H1.out _).mono ?_; rintro e w2 ⟨rfl, hb2⟩)
        go_ret
        exact ⟨rfl, hb2⟩
      | some l =>
        rw [hu, pairS_some] at H1
        clear hu
        go_enter Tryd.func10, Tryd.ntmps10
        go_wp2_with (go_at_call 22; refine (H1.out _).mono ?_; rintro e w2 ⟨rfl, hb2⟩)
        go_ret
        exact ⟨rfl, hb2⟩
  · have hd : dgErr t = 2 := by unfold dgErr dgOk; rw [decide_eq_false h71]; rfl
    rw [hd]
    have i71 : ((t.size : Int) != 71) = true := by simp; omega
    clear hd
    go_enter Tryd.func10, Tryd.ntmps10
    go_wp2
    go_ret
    exact ⟨rfl, Below.refl _ _⟩

theorem drop7 (s : ByteArray) (h : s.size = 71) : (s.extract 7 71).data.toList = s.data.toList.drop 7 := by
  simp
  rw [List.take_of_length_le]
  have : s.data.toList.length = s.size := by simp
  simp at this
  simp; omega
/-- What Of returns may be a digest. -/
theorem dgOk_digS (l : List UInt8) : dgErr (digS l) = 0 := by
  have h1 : (digS l).size = 71 := digL_length l
  have h2 : ((digS l).extract 0 7).toList = preL := by
    rw [toList_eq]
    simp [digS, digL, preL]
  have h3 : ((digS l).extract 7 (digS l).size).data.toList = hexL (sumL l) := by
    rw [h1]
    have h4 : (hexL (sumL l)).length = 64 := by rw [hexL_length, sumL_length]
    rw [drop7 _ h1]
    simp [digS, digL, preL]
  unfold dgErr dgOk
  rw [h1, h2, ← h1, h3, unhexG_hexL]
  simp
end Go.Proofs.YtjmiekhjkeioaaaDoor

/- Contracts of quote.isBroken and quote.Valid: whether bytes are those of letters. A contract of strings.IndexRune at the letters that have a short escape: which of them a letter is. Contracts of quote.writeLetter and quote.Quote: a letter in the one form, and a text between quotes. Contracts of quote.unit and quote.escape: what an escape denotes. A contract of quote.escape: the letter that an escape denotes, and its bytes. A contract of quote.Unquote: what any bytes tell between quotes. -/
import Derived.Test.YtaniebkfgkhgoaaGreatDoorJ1
import Derived.Test.YtaniebkfgkhgoaaGreatDoorJ0
import Derived.BigCall
import Derived.WalkKit
import Derived.Laws.Runes
import Derived.LoopTactic
import Derived.RegionTactic
import Derived.Deep.RegionWith
import Derived.BigQuiet
import Derived.Deep.QuietTactic
import Derived.Deep.RegionHeld3
import Derived.Shelf.Unicode.DecodeSlow
import Derived.Laws.BitsLemmas
import Derived.Laws.DeepBits32
import Derived.OwnWalk
namespace Go.Proofs.YtaniebkfgkhgoaaGreatDoor
open Go.RowKit
set_option linter.unusedVariables false
set_option maxRecDepth 100000

def decodeLn (l : List UInt8) : Nat := (Lib.decodeL l).1
theorem hasFFFD (l : List UInt8) : Lib.hasPrefix l [239, 191, 189] = true ↔ ∃ r, l = enc 65533 ++ r := by
  have e : enc 65533 = [239, 191, 189] := by decide
  rw [e]
  show List.isPrefixOf [239, 191, 189] l = true ↔ _
  rw [List.isPrefixOf_iff_prefix]
  constructor
  · rintro ⟨r, h⟩; exact ⟨r, h.symm⟩
  · rintro ⟨r, h⟩; exact ⟨r, h.symm⟩
/-- A decoded letter that is U+FFFD, where its bytes do not stand, is none. -/
theorem broken_iff (l : List UInt8) (hne : l ≠ []) : (((decodeLn l : Nat) : Int) = 65533 ∧ Lib.hasPrefix l [239, 191, 189] = false) ↔ letterG l = none := by
  unfold decodeLn
  constructor
  · rintro ⟨h1, h2⟩
    cases hL : letterG l with
    | none => rfl
    | some x =>
      obtain ⟨n, k⟩ := x
      have hd := (letter_facts hL).2.2.2.2.2.2
      rw [hd] at h1
      have hn : n = 65533 := by simp only at h1; omega
      subst hn
      have := (hasFFFD l).2 ⟨_, (letter_split hL).1⟩
      rw [this] at h2; cases h2
  · intro h
    have hd := letter_none hne h
    refine ⟨by rw [hd]; rfl, ?_⟩
    cases hp : Lib.hasPrefix l [239, 191, 189] with
    | false => rfl
    | true =>
      obtain ⟨r, e⟩ := (hasFFFD l).1 hp
      rw [e, letter_enc 65533 (by decide) r] at h
      cases h

theorem broken_any (r : Int) (t : ByteArray) (w : World) :
    Calls Tryz.prog 84 #[.int .i32 r, .string t] w fun e w' => e = .returned (.bool (decide (r = 65533 ∧ Lib.hasPrefix t.data.toList [239, 191, 189] = false))) ∧ w' = w := by
  by_cases h : r = 65533
  · subst h
    cases hp : Lib.hasPrefix t.data.toList [239, 191, 189]
    all_goals
      go_enter Tryz.func84, Tryz.ntmps84
      go_wp2_with (go_at_call 94; refine (Tryz.strings_HasPrefix _ _ _).mono ?_; rintro e w' ⟨rfl, rfl⟩)
      go_ret
      simp
  · have hb : (r == (65533 : Int)) = false := by simp [h]
    have HO := Lib.hid (show decide (r = 65533 ∧ Lib.hasPrefix t.data.toList [239, 191, 189] = false) = false by simp [h])
    clear h
    go_enter Tryz.func84, Tryz.ntmps84
    go_wp2_with fail
    go_ret
    exact ⟨by rw [HO.out]; rfl, rfl⟩

theorem ext_list (s : ByteArray) (pos : Nat) : (s.extract pos s.size).data.toList = s.data.toList.drop pos := by
  rw [Lib.extract_data, List.take_of_length_le (by simp)]
/-- isBroken at place pos of a text, of what is decoded there. -/
theorem broken_at (s : ByteArray) (pos : Nat) (hp : pos < s.size) (b : Bool) (hb : (letterG (s.data.toList.drop pos)).isNone = b) (w : World) :
    Calls Tryz.prog 84 #[.int .i32 ((Utf8.decode s pos).1 : Int), .string (s.extract pos s.size)] w fun e w' => e = .returned (.bool b) ∧ w' = w := by
  refine (broken_any _ _ _).mono ?_
  rintro e w' ⟨rfl, rfl⟩
  refine ⟨?_, rfl⟩
  congr 2
  have hne : s.data.toList.drop pos ≠ [] := by
    intro h
    have := congrArg List.length h
    simp at this; omega
  have hi := broken_iff (s.data.toList.drop pos) hne
  unfold decodeLn at hi
  rw [Lib.decodeL_drop] at hi
  rw [ext_list, ← hb]
  cases hL : letterG (s.data.toList.drop pos) with
  | none => simp only [Option.isNone_none, decide_eq_true_eq]; exact hi.2 hL
  | some x =>
    simp only [Option.isNone_some, decide_eq_false_iff_not]
    intro h; rw [hi.1 h] at hL; cases hL

theorem valid_any (s : ByteArray) (w : World) (hs : s.size ≤ 35184372088832) :
    Calls Tryz.prog 61 #[.string s] w fun e w' => e = .returned (.bool (Lib.validD s.data.toList)) ∧ Below w.heap.size w w' := by
  have HL := Lib.hid (show s.data.toList.length = s.size by simp)
  go_enter Tryz.func61, Tryz.ntmps61
  go_wp2_with fail
  go_loopw [] (fun wr => ∃ pos : Nat, pos ≤ s.size ∧ wr.heap[w.heap.size]? = some (.stringIter s pos) ∧ Hid (Below w.heap.size w wr) ∧ Hid (Lib.validD (s.data.toList.drop pos) = Lib.validD s.data.toList)) (fun wr => s.size - wr.iterPos w.heap.size)
  case atStart =>
    refine ⟨0, Nat.zero_le _, ?_, (Below.refl _ w).alloc (Nat.le_refl _) _, rfl⟩
    have := World.iter_heap w s 0
    simpa using this
  case round =>
    obtain ⟨pos, hpos, hit, hbel, hval⟩ := hrel
    have hsz : w.heap.size < wr.heap.size := (Array.getElem?_eq_some_iff.1 hit).1
    by_cases hp : pos < s.size
    · have hnx : ∀ ty, (Instr.next (.pointer (some ⟨w.heap.size, 0, none⟩)) true ty).run Tryz.prog wr = _ := fun ty => Lib.run_next_any_at wr w.heap.size s pos ty hit hp
      have hne : s.data.toList.drop pos ≠ [] := by
        intro h
        have := congrArg List.length h
        rw [List.length_drop, HL.out] at this; simp at this; omega
      have hv := valid_step _ hne
      have hdl := Lib.decodeL_drop s pos
      cases hL : letterG (s.data.toList.drop pos) with
      | none =>
        have hc := fun w0 : World => broken_at s pos hp true (by rw [hL]; rfl) w0
        have HV := Lib.hid (show Lib.validD s.data.toList = false by rw [← hval.out, hv, hL])
        have hbw2 := Lib.hid (Lib.below_iterAt hbel.out (k := w.heap.size) (Nat.le_refl _) s (pos + (Utf8.decode s pos).2))
        clear hL hv hdl hne hval hbel
        go_wp2_with (go_at_call 84; refine (hc _).mono ?_; rintro e w' ⟨rfl, rfl⟩)
        go_ret
        exact ⟨by rw [HV.out]; rfl, hbw2.out⟩
      | some x =>
        obtain ⟨n, k⟩ := x
        obtain ⟨i1, i2, i3, i4, i5, i6, i7⟩ := letter_facts hL
        rw [List.length_drop, HL.out] at i4
        rw [hL] at hv
        simp only [List.drop_drop] at hv
        rw [hdl] at i7
        have hc := fun w0 : World => broken_at s pos hp false (by rw [hL]; rfl) w0
        have HV := Lib.hid (hv.symm.trans hval.out)
        have hit2 := Lib.iterAt_heap wr w.heap.size s pos (pos + (Utf8.decode s pos).2) hit
        have hbw2 := Lib.hid (Lib.below_iterAt hbel.out (k := w.heap.size) (Nat.le_refl _) s (pos + (Utf8.decode s pos).2))
        have H7 := Lib.hid i7
        have hk : (Utf8.decode s pos).2 = k := by rw [i7]
        have HK := Lib.hid hk
        clear hL hv hdl hne hval hbel i5 i6 i7 i1 hk
        go_wp2_with (go_at_call 84; refine (hc _).mono ?_; rintro e w' ⟨rfl, rfl⟩)
        rw [HK.out] at hit2 hbw2 ⊢
        go_roundw
        case rel => exact ⟨pos + k, by omega, hit2, hbw2.out, HV.out⟩
        case measure =>
          simp only [World.iterPos, hit2, hit]
          omega
    · have hnx : ∀ ty, (Instr.next (.pointer (some ⟨w.heap.size, 0, none⟩)) true ty).run Tryz.prog wr = _ := fun ty => Lib.run_next_end_at wr w.heap.size s pos ty hit hp
      have HV := Lib.hid (show Lib.validD s.data.toList = true by rw [← hval.out, List.drop_of_length_le (by rw [HL.out]; omega)]; rfl)
      clear hval
      go_wp2_with fail
      go_ret
      exact ⟨by rw [HV.out]; rfl, hbel.out⟩
end Go.Proofs.YtaniebkfgkhgoaaGreatDoor

namespace Go.Proofs.YtaniebkfgkhgoaaGreatDoor
open Go.RowKit
set_option linter.unusedVariables false

/-- Which of the letters with a short escape a letter is; -1: none. -/
def ixG (n : Nat) : Int := if n = 34 then 0 else if n = 92 then 1 else if n = 8 then 2 else if n = 12 then 3 else if n = 10 then 4 else if n = 13 then 5 else if n = 9 then 6 else -1
set_option maxRecDepth 1000000 in
theorem ix_low : ∀ i : Fin 128, Lib.indexByte [34, 92, 8, 12, 10, 13, 9] (UInt8.ofNat i.val) = ixG i.val := by decide
theorem ix_none (l : List UInt8) (c : UInt8) (hl : ∀ b ∈ l, b.toNat < 128) (hc : 128 ≤ c.toNat) : Lib.indexByte l c = -1 := by
  induction l with
  | nil => rfl
  | cons b t ih =>
    have h1 := hl b (by simp)
    have ih := ih (fun x hx => hl x (by simp [hx]))
    unfold Lib.indexByte
    rw [if_neg (by intro h; have : b = c := by simpa using h
                   rw [this] at h1; omega), ih]
    rfl
theorem ixG_high (n : Nat) (h : 128 ≤ n) : ixG n = -1 := by
  unfold ixG; repeat' split
  all_goals omega

theorem indexRune_low (n : Nat) (h : n < 128) (w : World) :
    Calls Tryz.prog 116 #[.string ⟨#[34, 92, 8, 12, 10, 13, 9]⟩, .int .i32 (n : Int)] w fun e w' => e = .returned (.int .i64 (ixG n)) ∧ Below w.heap.size w w' := by
  refine (Tryz.strings_IndexRune_ascii _ _ _ (by omega) (by omega)).mono ?_
  rintro e w' ⟨rfl, rfl⟩
  refine ⟨?_, Below.refl _ _⟩
  have := ix_low ⟨n, h⟩
  simp only at this
  rw [← this]
  congr 3

theorem indexByte_none (C : ByteArray) (hall : ∀ b ∈ C.data.toList, b.toNat < 128) (i j : Nat) (x : UInt8) (hx : 128 ≤ x.toNat) (w : World) :
    Calls Tryz.prog 123 #[.string (C.extract i j), .int .u8 (x.toNat : Int)] w fun e w' => e = .returned (.int .i64 (-1)) ∧ w' = w := by
  refine (Tryz.strings_IndexByte _ _ _).mono ?_
  rintro e w' ⟨rfl, rfl⟩
  refine ⟨?_, rfl⟩
  have e : ((x.toNat : Int)).toNat.toUInt8 = x := Lib.toByte _ x rfl
  rw [e, ix_none _ _ (fun b hb => hall b (mem_extract hb)) hx]

theorem validRune_yes (n : Nat) (hv : Utf8.valid (n : Int) = true) (w : World) :
    Calls Tryz.prog 124 #[.int .i32 (n : Int)] w fun e w' => e = .returned (.bool true) ∧ w' = w := by
  rw [validRune_eq] at hv
  unfold validRune at hv
  have hv := of_decide_eq_true hv
  have h0 : (0 : Int) ≤ n := by omega
  rcases hv with h | h
  · have h1 := h.2
    clear h
    go_enter Tryz.func124, Tryz.ntmps124
    go_wp2
    go_ret
    exact ⟨rfl, rfl⟩
  · have h1 := h.1
    have h2 := h.2
    have h3 : ¬ (n : Int) < 55296 := by omega
    clear h
    go_enter Tryz.func124, Tryz.ntmps124
    go_wp2
    go_ret
    exact ⟨rfl, rfl⟩

set_option maxRecDepth 1000000 in
set_option maxHeartbeats 1000000 in
theorem indexRune_high (C : ByteArray) (hCs : C.size = 7) (hall : Hid (∀ b ∈ C.data.toList, b.toNat < 128)) (n : Nat) (h0 : 128 ≤ n) (h : isLet n) (h1 : n ≠ 65533) (w : World) :
    Calls Tryz.prog 116 #[.string C, .int .i32 (n : Int)] w fun e w' => e = .returned (.int .i64 (-1)) ∧ Below w.heap.size w w' := by
  have hv : Utf8.valid (n : Int) = true := by
    rw [validRune_eq]; unfold validRune; unfold isLet at h; simp; omega
  obtain ⟨e2, e4, el⟩ := encode_facts (n : Int) hv (by omega)
  have hn2 : (n : Int) ≤ 1114111 := by unfold isLet at h; omega
  have hn4 : ((n : Int) == 65533) = false := by simp; omega
  have hn5 : ¬ (n : Int) < 128 := by omega
  have hn6 : (0 : Int) ≤ n := by omega
  have HE : ∀ w0 : World, (convert 21 9 (.int .i32 (n : Int))).run Tryz.prog w0 = .ok (.string (Utf8.encode (n : Int))) w0 := fun w0 => run_convert_int_string w0 _ _ .i32 _ (by kernel_rfl) Tryz.underlying9
  generalize Utf8.encode (n : Int) = E at *
  have hC := Lib.hid hv
  have HX := Lib.hid el
  clear hv h h0 h1 el
  obtain ⟨m, hsz⟩ : ∃ m, E.size = m + 1 := ⟨E.size - 1, by omega⟩
  have hm1 : 1 ≤ m := by omega
  have hm3 : m ≤ 3 := by omega
  have HX2 := Lib.hid hsz
  have hi1 : ((E.size : Nat) : Int) - 1 = (m : Int) := by omega
  have hw1 : IntKind.i64.wrap (((E.size : Nat) : Int) - 1) = (m : Int) := by rw [hi1]; exact IntWalk.i64_in _ (by omega)
  have hw2 : IntKind.i64.wrap ((m : Int) + 1) = (m : Int) + 1 := IntWalk.i64_in _ (by omega)
  clear e2 e4 hsz
  go_enter Tryz.func116, Tryz.ntmps116
  go_wp2_with (go_at_call 124; refine (validRune_yes n hC.out _).mono ?_; rintro e w' ⟨rfl, rfl⟩)
  go_step3
  go_wp2_with fail
  go_loopw [9] (fun i wr => wr = w' ∧ i = .int .i64 m) (fun _ _ => 0)
  case atStart => exact ⟨rfl, rfl⟩
  case round =>
    obtain ⟨rfl, rfl⟩ := hrel
    have hm7 : (m : Int) < 7 := by omega
    go_wp2_with fail
    go_step3
    go_wp2_with fail
    have hsz := HX2.out
    obtain ⟨x, hx⟩ : ∃ x, E[m]'(by omega) = x := ⟨_, rfl⟩
    obtain ⟨y, hy⟩ : ∃ y, C[m]'(by omega) = y := ⟨_, rfl⟩
    have hx0 : 128 ≤ x.toNat := by
      have el := HX.out (by omega)
      have : E[E.size - 1] = x := by rw [← hx]; congr 1; omega
      rw [this] at el; exact el
    have hy0 : y.toNat < 128 := hall.out y (by rw [← hy]; exact Array.getElem_mem_toList (xs := C.data) (by show m < C.size; omega))
    have hne : ((y.toNat : Int) == (x.toNat : Int)) = false := by simp; omega
    have hne2 : ((y.toNat : Int) != (x.toNat : Int)) = true := by simp; omega
    have hib := fun w0 : World => indexByte_none C hall.out (m + 1) 7 x hx0 w0
    have hms : (m : Int) < (E.size : Int) := by omega
    have hm0 : (0 : Int) ≤ m := by omega
    clear hx0 hy0 hsz
    have e7 : ((m : Int) + 1).toNat = m + 1 := by omega
    have e8 : (m : Int) + 1 ≤ 7 := by omega
    have e9 : (0 : Int) ≤ (m : Int) + 1 := by omega
    go_region
    go_wp2_with fail
    have hB := Lib.hid ((Below.refl wr.heap.size wr).drew)
    generalize wr.drew = wq at hB ⊢
    go_quiet ((go_at_call 123; exact Calls.quiet_of_same (hib _)))
    go_wp2_with fail
    simp (config := { zetaDelta := true }) only [Exit.noGoto, Exit.inBlock, Exit.then]
    go_ret
    exact ⟨rfl, below_drewN hB.out _⟩

set_option maxRecDepth 1000000 in
set_option maxHeartbeats 1000000 in
theorem indexRune_fffd (C : ByteArray) (hCs : C.size = 7) (hall : Hid (∀ b ∈ C.data.toList, b.toNat < 128)) (w : World) :
    Calls Tryz.prog 116 #[.string C, .int .i32 65533] w fun e w' => e = .returned (.int .i64 (-1)) ∧ Below w.heap.size w w' := by
  have HS := Lib.hid hCs
  clear hCs
  go_enter Tryz.func116, Tryz.ntmps116
  go_wp2_with fail
  go_loopw [] (fun wr => ∃ pos : Nat, pos ≤ C.size ∧ wr.heap[w.heap.size]? = some (.stringIter C pos) ∧ Hid (Below w.heap.size w wr)) (fun wr => C.size - wr.iterPos w.heap.size)
  case atStart =>
    refine ⟨0, Nat.zero_le _, ?_, (Below.refl _ w).alloc (Nat.le_refl _) _⟩
    have := World.iter_heap w C 0
    simpa using this
  case round =>
    obtain ⟨pos, hpos, hit, hbel⟩ := hrel
    have hsz : w.heap.size < wr.heap.size := (Array.getElem?_eq_some_iff.1 hit).1
    by_cases hp : pos < C.size
    · obtain ⟨y, hy⟩ : ∃ y, C[pos]'hp = y := ⟨_, rfl⟩
      have hy0 : y.toNat < 128 := hall.out y (by rw [← hy]; exact Array.getElem_mem_toList (xs := C.data) (by show pos < C.size; omega))
      have hnx : ∀ ty, (Instr.next (.pointer (some ⟨w.heap.size, 0, none⟩)) true ty).run Tryz.prog wr = .ok (.tuple #[.bool true, .int .i64 pos, .int .i32 (y.toNat : Int)]) (wr.iterAt w.heap.size C (pos + 1)) := fun ty => by
        rw [Lib.run_next_ascii_at wr w.heap.size C pos ty hit hp (by rw [hy]; exact hy0), hy]
      have hne : ((y.toNat : Int) == 65533) = false := by simp; omega
      have hit2 := Lib.iterAt_heap wr w.heap.size C pos (pos + 1) hit
      have hbw2 := Lib.hid (Lib.below_iterAt hbel.out (k := w.heap.size) (Nat.le_refl _) C (pos + 1))
      clear hy0 hy hbel
      go_wp2_with fail
      go_roundw
      case rel => exact ⟨pos + 1, by omega, hit2, hbw2.out⟩
      case measure =>
        simp only [World.iterPos, hit2, hit]
        omega
    · have hnx : ∀ ty, (Instr.next (.pointer (some ⟨w.heap.size, 0, none⟩)) true ty).run Tryz.prog wr = _ := fun ty => Lib.run_next_end_at wr w.heap.size C pos ty hit hp
      go_wp2_with fail
      go_ret
      exact ⟨rfl, hbel.out⟩

/-- strings.IndexRune at the letters that have a short escape. -/
theorem indexRune_any (n : Nat) (h : isLet n) (w : World) :
    Calls Tryz.prog 116 #[.string ⟨#[34, 92, 8, 12, 10, 13, 9]⟩, .int .i32 (n : Int)] w fun e w' => e = .returned (.int .i64 (ixG n)) ∧ Below w.heap.size w w' := by
  by_cases h0 : n < 128
  · exact indexRune_low n h0 w
  · have hall : Hid (∀ b ∈ (⟨#[34, 92, 8, 12, 10, 13, 9]⟩ : ByteArray).data.toList, b.toNat < 128) := by
      show ∀ b ∈ _, _
      decide
    rw [ixG_high n (by omega)]
    by_cases h1 : n = 65533
    · subst h1; exact indexRune_fffd _ rfl hall w
    · exact indexRune_high _ rfl hall n (by omega) h h1 w
end Go.Proofs.YtaniebkfgkhgoaaGreatDoor

namespace Go.Proofs.YtaniebkfgkhgoaaGreatDoor
open Go.RowKit
set_option linter.unusedVariables false
set_option maxRecDepth 100000

theorem short_ix (n : Nat) (h : 0 < shortG n) : ∃ i : Nat, ixG n = (i : Int) ∧ i < 7 ∧ ∀ hi : i < (⟨#[34, 92, 98, 102, 110, 114, 116]⟩ : ByteArray).size, ((⟨#[34, 92, 98, 102, 110, 114, 116]⟩ : ByteArray)[i]'hi) = UInt8.ofNat (shortG n) := by
  have hs' : n = 34 ∨ n = 92 ∨ n = 8 ∨ n = 12 ∨ n = 10 ∨ n = 13 ∨ n = 9 := by
    unfold shortG at h
    repeat' split at h
    all_goals omega
  rcases hs' with rfl | rfl | rfl | rfl | rfl | rfl | rfl
  · exact ⟨0, rfl, by omega, fun _ => rfl⟩
  · exact ⟨1, rfl, by omega, fun _ => rfl⟩
  · exact ⟨2, rfl, by omega, fun _ => rfl⟩
  · exact ⟨3, rfl, by omega, fun _ => rfl⟩
  · exact ⟨4, rfl, by omega, fun _ => rfl⟩
  · exact ⟨5, rfl, by omega, fun _ => rfl⟩
  · exact ⟨6, rfl, by omega, fun _ => rfl⟩
theorem short_not (n : Nat) (h : ¬ 0 < shortG n) : ixG n = -1 := by
  have h0 : shortG n = 0 := by omega
  unfold shortG at h0
  unfold ixG
  repeat' split at h0
  all_goals first | omega | simp_all
theorem short_lt (n : Nat) : shortG n < 128 := by
  unfold shortG
  repeat' split
  all_goals omega
theorem conv_low (n : Nat) (h : n < 128) (w0 : World) : (convert 21 9 (.int .i32 (n : Int))).run Tryz.prog w0 = .ok (.string ⟨#[UInt8.ofNat n]⟩) w0 := by
  rw [run_convert_int_string w0 _ _ .i32 _ (by kernel_rfl) Tryz.underlying9]
  have hv : Utf8.valid (n : Int) = true := by rw [validRune_eq]; unfold validRune; simp; omega
  unfold Utf8.encode
  simp only [hv, if_true]
  rw [if_pos (by omega)]
  rfl

theorem letter_any (n : Nat) (hn : isLet n) (b : Nat) (acc : List UInt8) (w : World) (h : Bd b acc w) (hlen : acc.length + 6 ≤ 140737488355328) (hB : b ≤ w.heap.size) :
    Calls Tryz.prog 99 #[.pointer (some ⟨b, 0, none⟩), .int .i32 (n : Int)] w fun e w' => e = .returned (.tuple #[]) ∧ Bd b (acc ++ canonG n) w' ∧ Aft b w w' := by
  by_cases hs : 0 < shortG n
  · obtain ⟨i, hix, hi7, hidx⟩ := short_ix n hs
    have HC := Lib.hid (show canonG n = [92] ++ [UInt8.ofNat (shortG n)] by unfold canonG; rw [if_pos hs]; rfl)
    have hsl := short_lt n
    have HD := Lib.hid hidx
    have hir := fun w0 => (indexRune_any n hn w0)
    rw [hix] at hir
    have hi0 : (0 : Int) ≤ (i : Int) := by omega
    have hi1 : (i : Int) < 7 := by omega
    clear hidx hix hs hn
    go_enter Tryz.func99, Tryz.ntmps99
    go_wp2_with (go_at_call 116; refine (hir _).mono ?_)
    first | rintro e W1 rfl b1 | rintro e W1 ⟨rfl, b1⟩
    have B1 := h.below b1
    have A1 := Lib.hid (Aft.of_below hB b1)
    have S1 := b1.size
    clear b1 h
    go_wp2_with (go_at_call 98; refine (wByte b acc 92 92 rfl _ B1 (by omega) (by omega)).mono ?_)
    first | rintro e W2 rfl B2 a2 | rintro e W2 ⟨rfl, B2, a2⟩
    have S2 := a2.size
    have A2 := Lib.hid (A1.out.trans a2)
    clear a2 B1 A1
    go_wp2_with (go_at_call 98; refine (wByte b (acc ++ [92]) (UInt8.ofNat (shortG n)) _ (by rw [HD.out]) _ B2 (by simp; omega) (by omega)).mono ?_)
    first | rintro e W3 rfl B3 a3 | rintro e W3 ⟨rfl, B3, a3⟩
    go_wp2_with fail
    refine bodyPost_ret (results_none rfl _ _ _) rfl ?_
    refine ⟨rfl, ?_, A2.out.trans a3⟩
    rw [HC.out, ← List.append_assoc]; exact B3
  · have hix := short_not n hs
    have hir := fun w0 => (indexRune_any n hn w0)
    rw [hix] at hir
    by_cases hc : n < 32 ∨ n = 127
    · have HC := Lib.hid (show canonG n = [92, 117, 48, 48] ++ hexL [UInt8.ofNat n] by
        unfold canonG; rw [if_neg hs, if_pos hc]
        have : (UInt8.ofNat n).toNat = n := by rw [UInt8.toNat_ofNat']; omega
        simp [hexL, this])
      have hcv := fun w0 : World => conv_low n (by omega) w0
      have key : ((n : Int) < 32) ∨ (¬ (n : Int) < 32 ∧ ((n : Int) == 127) = true) := by
        rcases hc with hc | hc
        · left; omega
        · right; refine ⟨by omega, by simp; omega⟩
      clear hc hs hn hix
      rcases key with k1 | ⟨k1, k2⟩
      all_goals
        go_enter Tryz.func99, Tryz.ntmps99
        go_wp2_with (go_at_call 116; refine (hir _).mono ?_)
        first | rintro e W1 rfl b1 | rintro e W1 ⟨rfl, b1⟩
        have B1 := h.below b1
        have A1 := Lib.hid (Aft.of_below hB b1)
        have S1 := b1.size
        clear b1 h
        go_wp2_with (go_at_call 77; refine (wString b acc ⟨#[92, 117, 48, 48]⟩ _ B1 (by show _ + 4 ≤ _; omega) (by omega)).mono ?_)
        first | rintro e W2 rfl B2 a2 | rintro e W2 ⟨rfl, B2, a2⟩
        have S2 := a2.size
        have A2 := Lib.hid (A1.out.trans a2)
        clear a2 B1 A1
        go_wp2_with (go_at_call 117; refine (hex_any ⟨#[UInt8.ofNat n]⟩ _ (by show 1 ≤ _; omega)).mono ?_)
        first | rintro e W3 rfl b3 | rintro e W3 ⟨rfl, b3⟩
        have B3 := B2.below b3
        have S3 := b3.size
        have A3 := Lib.hid (A2.out.trans (Aft.of_below (by omega) b3))
        clear b3 B2 A2
        go_wp2_with (go_at_call 77; refine (wString b _ _ _ B3 (by simp [ByteArray.size, hexL]; omega) (by omega)).mono ?_)
        first | rintro e W4 rfl B4 a4 | rintro e W4 ⟨rfl, B4, a4⟩
        go_wp2_with fail
        refine bodyPost_ret (results_none rfl _ _ _) rfl ?_
        refine ⟨rfl, ?_, A3.out.trans a4⟩
        rw [HC.out]; exact B4
    · have HC := Lib.hid (show canonG n = enc n by unfold canonG; rw [if_neg hs, if_neg hc])
      have k1 : ¬ (n : Int) < 32 := by omega
      have k2 : ((n : Int) == 127) = false := by simp; omega
      have hn2 : n ≤ 1114111 := by unfold isLet at hn; omega
      clear hc hs hn hix
      go_enter Tryz.func99, Tryz.ntmps99
      go_wp2_with (go_at_call 116; refine (hir _).mono ?_)
      first | rintro e W1 rfl b1 | rintro e W1 ⟨rfl, b1⟩
      have B1 := h.below b1
      have A1 := Lib.hid (Aft.of_below hB b1)
      have S1 := b1.size
      clear b1 h
      go_wp2_with (go_at_call 118; refine (wRune b acc (n : Int) (by omega) (by omega) _ B1 (by omega) (by omega)).mono ?_)
      first | rintro e W2 ⟨_, rfl⟩ B2 a2 | rintro e W2 _ rfl B2 a2 | rintro e W2 ⟨⟨_, rfl⟩, B2, a2⟩
      go_wp2_with fail
      refine bodyPost_end (results_none rfl _ _ _) rfl ?_
      refine ⟨rfl, ?_, A1.out.trans a2⟩
      rw [HC.out]; exact B2

/-- What Quote answers. -/
def quoteS (l : List UInt8) : Value := if Lib.validD l then (if 65536 < l.length then .tuple #[.string ⟨#[]⟩, .int .i64 5] else .tuple #[.string ⟨(quoteG l).toArray⟩, .int .i64 0]) else .tuple #[.string ⟨#[]⟩, .int .i64 2]

theorem quote_any (s : ByteArray) (w : World) (hs : s.size ≤ 1048576) :
    Calls Tryz.prog 78 #[.string s] w fun e w' => e = .returned (quoteS s.data.toList) ∧ Below w.heap.size w w' := by
  have hl : s.data.toList.length = s.size := by simp
  cases hv : Lib.validD s.data.toList with
  | false =>
    have HQ := Lib.hid (show quoteS s.data.toList = .tuple #[.string ⟨#[]⟩, .int .i64 2] by unfold quoteS; rw [hv]; rfl)
    have hva := fun w0 => valid_any s w0 (by omega)
    rw [hv] at hva
    clear hl hv
    go_enter Tryz.func78, Tryz.ntmps78
    go_wp2_with (go_at_call 61; refine (hva _).mono ?_)
    first | rintro e W1 rfl b1 | rintro e W1 ⟨rfl, b1⟩
    have B1 := Lib.hid b1
    clear b1
    go_wp2_with fail
    go_ret2
    exact ⟨by rw [HQ.out]; rfl, B1.out⟩
  | true =>
    have hva := fun w0 => valid_any s w0 (by omega)
    rw [hv] at hva
    by_cases hbig : 65536 < s.size
    · have HQ := Lib.hid (show quoteS s.data.toList = .tuple #[.string ⟨#[]⟩, .int .i64 5] by unfold quoteS; rw [hv, if_pos rfl, if_pos (by omega)])
      have hb : (65536 : Int) < (s.size : Int) := by omega
      clear hl hv
      go_enter Tryz.func78, Tryz.ntmps78
      go_wp2_with (go_at_call 61; refine (hva _).mono ?_)
      first | rintro e W1 rfl b1 | rintro e W1 ⟨rfl, b1⟩
      have B1 := Lib.hid b1
      clear b1
      go_wp2_with fail
      go_ret2
      exact ⟨by rw [HQ.out]; rfl, B1.out⟩
    · have HQ := Lib.hid (show quoteS s.data.toList = .tuple #[.string ⟨(quoteG s.data.toList).toArray⟩, .int .i64 0] by unfold quoteS; rw [hv, if_pos rfl, if_neg (by omega)])
      have hb : (s.size : Int) ≤ 65536 := by omega
      have HL := Lib.hid hl
      have HV := Lib.hid hv
      clear hl hv
      go_enter Tryz.func78, Tryz.ntmps78
      go_wp2_with (go_at_call 61; refine (hva _).mono ?_)
      first | rintro e W1 rfl b1 | rintro e W1 ⟨rfl, b1⟩
      have B1 := Lib.hid b1
      have S1 := b1.size
      clear b1
      go_wp2_with (go_at_call 98; refine (wByte W1.heap.size [] 34 34 rfl _ (fresh_Bd W1) (by simp) (by simp)).mono ?_)
      first | rintro e W2 rfl B2 a2 | rintro e W2 ⟨rfl, B2, a2⟩
      have S2 := a2.size
      have A2 := Lib.hid a2
      simp only [World.size_alloc] at S2
      have L2 := Lib.hid ((B1.out.alloc S1 _).trans (below_low S1 a2.1))
      have HB := Lib.hid (show W1.heap.size < W2.heap.size by omega)
      clear a2 hva B1 A2
      go_wp2_with fail
      go_loopw [] (fun wr => ∃ (pos : Nat) (acc : List UInt8), pos ≤ s.size ∧ Bd W1.heap.size acc wr ∧ wr.heap[W2.heap.size]? = some (.stringIter s pos) ∧ Hid (Below w.heap.size w wr) ∧ Hid (acc ++ bodyG (s.data.toList.drop pos) = 34 :: bodyG s.data.toList) ∧ Hid (Lib.validD (s.data.toList.drop pos) = true) ∧ Hid (acc.length ≤ 6 * pos + 1)) (fun wr => s.size - wr.iterPos W2.heap.size)
      case atStart =>
        refine ⟨0, [34], Nat.zero_le _, B2.alloc _, ?_, L2.out.alloc (by omega) _, rfl, HV.out, by show 1 ≤ _; omega⟩
        have := World.iter_heap W2 s 0
        simpa using this
      case round =>
        obtain ⟨pos, acc, hpos, hI, hit, hbel, hacc, hval, hal⟩ := hrel
        have hsz : W2.heap.size < wr.heap.size := (Array.getElem?_eq_some_iff.1 hit).1
        by_cases hp : pos < s.size
        · have hnx : ∀ ty, (Instr.next (.pointer (some ⟨W2.heap.size, 0, none⟩)) true ty).run Tryz.prog wr = _ := fun ty => Lib.run_next_any_at wr W2.heap.size s pos ty hit hp
          have hne : s.data.toList.drop pos ≠ [] := by
            intro h
            have := congrArg List.length h
            rw [List.length_drop, HL.out] at this; simp at this; omega
          have hv := valid_step _ hne
          have hst := bodyG_step _ hne
          have hdl := Lib.decodeL_drop s pos
          cases hL : letterG (s.data.toList.drop pos) with
          | none => rw [hL, hval.out] at hv; cases hv
          | some x =>
            obtain ⟨n, k⟩ := x
            obtain ⟨i1, i2, i3, i4, i5, i6, i7⟩ := letter_facts hL
            rw [List.length_drop, HL.out] at i4
            rw [hL, hval.out] at hv
            simp only [List.drop_drop] at hv
            rw [i7] at hst
            simp only [List.drop_drop] at hst
            rw [hdl] at i7
            have HV2 := Lib.hid hv.symm
            have HS := Lib.hid hst
            have hit2 := Lib.iterAt_heap wr W2.heap.size s pos (pos + k) hit
            have hI2 := hI.iterAt hit (pos + k)
            have hbw2 := Lib.hid (Lib.below_iterAt hbel.out (k := W2.heap.size) (by have := HB.out; omega) s (pos + k))
            have hsz2 : wr.heap.size ≤ (wr.iterAt W2.heap.size s (pos + k)).heap.size := by rw [Lib.iterAt_size]; omega
            rw [i7] at hnx
            simp only at hnx
            have HI1 := Lib.hid i1
            have HB2 := Lib.hid hbel
            clear hv hst hdl hL i5 i6 i7 hval i1 hI hbel
            generalize wr.iterAt W2.heap.size s (pos + k) = wq at hnx hit2 hI2 hbw2 hsz2
            go_wp2_with (go_at_call 99; refine (letter_any n HI1.out W1.heap.size acc _ hI2 (by have := hal.out; omega) (by have := HB.out; omega)).mono ?_)
            first | rintro e W3 rfl B3 a3 | rintro e W3 ⟨rfl, B3, a3⟩
            have hit3 := a3.2.iter hit2 (by have := HB.out; omega)
            have L3 := Lib.hid (hbw2.out.trans (below_low S1 a3.1))
            clear a3 hI2 hnx
            go_wp2_with fail
            go_roundw
            case rel =>
              refine ⟨pos + k, acc ++ canonG n, by omega, B3, hit3, L3.out, ?_, HV2.out, ?_⟩
              · show acc ++ canonG n ++ _ = _
                rw [← hacc.out, HS.out, List.append_assoc]
              · show (acc ++ canonG n).length ≤ _
                have := canonG_len n
                have := hal.out
                rw [List.length_append]; omega
            case measure =>
              simp only [World.iterPos, hit3, hit]
              omega
        · have hnx : ∀ ty, (Instr.next (.pointer (some ⟨W2.heap.size, 0, none⟩)) true ty).run Tryz.prog wr = _ := fun ty => Lib.run_next_end_at wr W2.heap.size s pos ty hit hp
          have HE := Lib.hid (show acc ++ [34] = quoteG s.data.toList by
            have := hacc.out
            rw [List.drop_of_length_le (by rw [HL.out]; omega), bodyG_nil, List.append_nil] at this
            rw [this]; rfl)
          clear hacc hval
          go_wp2_with (go_at_call 98; refine (wByte W1.heap.size acc 34 34 rfl _ hI (by have := hal.out; omega) (by have := HB.out; omega)).mono ?_)
          first | rintro e W3 rfl B3 a3 | rintro e W3 ⟨rfl, B3, a3⟩
          have S3 := a3.size
          have L3 := Lib.hid (hbel.out.trans (below_low S1 a3.1))
          clear a3 hI hnx hbel
          go_wp2_with (go_at_call 29; refine (bString W1.heap.size _ _ B3 (by have := HB.out; omega)).mono ?_)
          first | rintro e W4 rfl a4 | rintro e W4 ⟨rfl, a4⟩
          have L4 := Lib.hid (L3.out.trans (below_low S1 a4.1))
          clear a4
          go_wp2_with fail
          go_ret2
          refine ⟨?_, L4.out⟩
          rw [HQ.out, ← HE.out]
          first | rfl | simp
end Go.Proofs.YtaniebkfgkhgoaaGreatDoor

namespace Go.Proofs.YtaniebkfgkhgoaaGreatDoor
open Go.RowKit
set_option linter.unusedVariables false
set_option maxRecDepth 100000

/-- The library's tables lie as their text lays them. -/
structure TabsW (w : World) : Prop where
  case' : Lib.CaseVar 4 Lib.caseA w
  utf8' : Lib.Utf8Tabs 2 3 w
theorem TabsW.below {w w' : World} (h : TabsW w) (b : Below w.heap.size w w') : TabsW w' := ⟨Lib.CaseVar_below h.case' b, Utf8Tabs_below h.utf8' b⟩

theorem mapGoD_len (f : Int → Int) : ∀ (n : Nat) (l : List UInt8), (Lib.mapGoD f n l).length ≤ 4 * n
  | 0, _ => by simp [Lib.mapGoD]
  | n + 1, l => by
    simp only [Lib.mapGoD]
    split
    · simp
    · have ih := mapGoD_len f n (l.drop (Lib.decodeL l).2)
      rw [List.length_append]
      split
      · have := Lib.encodeRuneZ_length (f (Lib.decodeL l).1)
        unfold Lib.encodeRune
        rw [List.length_map]
        omega
      · simp; omega

def unitS : Option Nat → Value
  | some n => .tuple #[.int .i32 (n : Int), .bool true]
  | none => .tuple #[.int .i32 0, .bool false]

theorem unit_any (s : ByteArray) (w : World) (hT : TabsW w) (hs : s.size ≤ 1099511627776) :
    Calls Tryz.prog 129 #[.string s] w fun e w' => e = .returned (unitS (unitG s.data.toList)) ∧ Below w.heap.size w w' := by
  have hl : s.data.toList.length = s.size := by simp
  by_cases h6 : s.size < 6
  · have HU : Hid (unitG s.data.toList = none) := by
      show unitG s.data.toList = none
      cases hu : unitG s.data.toList with
      | none => rfl
      | some n => have := (unitG_facts hu).2.1; omega
    have h6' : (s.size : Int) < 6 := by omega
    clear hl hT
    go_enter Tryz.func129, Tryz.ntmps129
    go_wp2_with fail
    go_ret2
    exact ⟨by rw [HU.out]; rfl, Below.refl _ _⟩
  · have h6' : ¬ (s.size : Int) < 6 := by omega
    have hp := fun w0 => Tryz.strings_HasPrefix s ⟨#[92, 117]⟩ w0
    cases hpre : Lib.hasPrefix s.data.toList [92, 117] with
    | false =>
      have HU : Hid (unitG s.data.toList = none) := by
        show unitG s.data.toList = none
        cases hd : s.data.toList with
        | nil => rfl
        | cons a t =>
          cases t with
          | nil => rfl
          | cons b t =>
            simp only [unitG]
            rw [if_neg]
            rintro ⟨rfl, rfl⟩
            rw [hd] at hpre
            revert hpre
            show List.isPrefixOf [92, 117] (92 :: 117 :: t) = false → False
            simp [List.isPrefixOf]
      change ∀ w0, Calls Tryz.prog 94 #[.string s, .string ⟨#[92, 117]⟩] w0 fun e w' => e = .returned (.bool (Lib.hasPrefix s.data.toList [92, 117])) ∧ w' = w0 at hp
      rw [hpre] at hp
      clear hl hT hpre
      go_enter Tryz.func129, Tryz.ntmps129
      go_wp2_with (go_at_call 94; refine (hp _).mono ?_; first | rintro e w' rfl rfl | rintro e w' ⟨rfl, rfl⟩)
      go_ret2
      exact ⟨by rw [HU.out]; rfl, Below.refl _ _⟩
    | true =>
      obtain ⟨t, ht⟩ : ∃ t, s.data.toList = 92 :: 117 :: t := by
        have : [92, 117] <+: s.data.toList := List.isPrefixOf_iff_prefix.1 hpre
        obtain ⟨t, e⟩ := this
        exact ⟨t, e.symm⟩
      obtain ⟨a, b, c, d, r, hr⟩ : ∃ a b c d r, t = a :: b :: c :: d :: r := by
        have h4 : 4 ≤ t.length := by rw [ht] at hl; simp at hl; omega
        match t, h4 with
        | a :: b :: c :: d :: r, _ => exact ⟨a, b, c, d, r, rfl⟩
      subst hr
      have HX : (s.extract 2 6).data.toList = [a, b, c, d] := by
        rw [Lib.extract_data, ht]; rfl
      have hU : unitG s.data.toList = fourG [a, b, c, d] := by rw [ht]; simp only [unitG, fourG, and_self, if_true]
      change ∀ w0, Calls Tryz.prog 94 #[.string s, .string ⟨#[92, 117]⟩] w0 fun e w' => e = .returned (.bool (Lib.hasPrefix s.data.toList [92, 117])) ∧ w' = w0 at hp
      rw [hpre] at hp
      obtain ⟨L, hL⟩ : ∃ L, Lib.toLowerD [a, b, c, d] = L := ⟨_, rfl⟩
      have hlow : Calls Tryz.prog 133 #[.string (s.extract 2 6)] w fun e w' => e = .returned (.string ⟨L.toArray⟩) ∧ Below w.heap.size w w' := by
        have := Tryz.strings_ToLower_any (s.extract 2 6) w (by rw [Lib.size_eq, HX]; show 4 < _; omega) hT.case' hT.utf8'
        rw [HX, hL] at this; exact this
      have hLs : L.length ≤ 16 := by rw [← hL]; exact mapGoD_len Lib.toLowerU 4 [a, b, c, d]
      have hunx : ∀ w0, Calls Tryz.prog 132 #[.string ⟨L.toArray⟩] w0 fun e w' => e = .returned (pairS ((fourG [a, b, c, d]).map fun n => [UInt8.ofNat (n / 256), UInt8.ofNat (n % 256)])) ∧ Below w0.heap.size w0 w' := fun w0 => by
        have := unhex_any ⟨L.toArray⟩ w0 (by show L.length ≤ _; omega)
        simp only at this
        rw [← hL, lower_four] at this; rw [← hL]; exact this
      cases hf : fourG [a, b, c, d] with
      | none =>
        have HU : Hid (unitG s.data.toList = none) := hU.trans hf
        rw [hf] at hunx
        change ∀ w0, Calls Tryz.prog 132 #[.string ⟨L.toArray⟩] w0 fun e w' => e = .returned (.tuple #[.string ⟨#[]⟩, .bool false]) ∧ Below w0.heap.size w0 w' at hunx
        clear hl hT hpre ht HX hU hL hf hLs
        go_enter Tryz.func129, Tryz.ntmps129
        go_wp2_with (first
          | (go_at_call 94; refine (hp _).mono ?_; first | rintro e w' rfl rfl | rintro e w' ⟨rfl, rfl⟩)
          | (go_at_call 133; refine hlow.mono ?_))
        first | rintro e W1 rfl b1 | rintro e W1 ⟨rfl, b1⟩
        have B1 := Lib.hid b1
        have S1 := b1.size
        clear b1
        go_wp2_with (go_at_call 132; refine (hunx _).mono ?_)
        first | rintro e W2 rfl b2 | rintro e W2 ⟨rfl, b2⟩
        have B2 := Lib.hid (B1.out.trans (below_low S1 b2))
        clear b2
        go_wp2_with fail
        go_ret2
        exact ⟨by rw [HU.out]; rfl, B2.out⟩
      | some n =>
        have hn := (fourG_facts hf).1
        have HU : Hid (unitG s.data.toList = some n) := hU.trans hf
        rw [hf] at hunx
        obtain ⟨x, hx⟩ : ∃ x, UInt8.ofNat (n / 256) = x := ⟨_, rfl⟩
        obtain ⟨y, hy⟩ : ∃ y, UInt8.ofNat (n % 256) = y := ⟨_, rfl⟩
        change ∀ w0, Calls Tryz.prog 132 #[.string ⟨L.toArray⟩] w0 fun e w' => e = .returned (.tuple #[.string ⟨#[UInt8.ofNat (n / 256), UInt8.ofNat (n % 256)]⟩, .bool true]) ∧ Below w0.heap.size w0 w' at hunx
        rw [hx, hy] at hunx
        have hx2 : x.toNat = n / 256 := by rw [← hx, UInt8.toNat_ofNat']; omega
        have hy2 : y.toNat = n % 256 := by rw [← hy, UInt8.toNat_ofNat']; omega
        have hN := Lib.hid (show (x.toNat : Int) * 256 + (y.toNat : Int) = (n : Int) by omega)
        have hor : bits BinOp.or IntKind.i32 ((x.toNat : Int) * 256) (y.toNat : Int) = (x.toNat : Int) * 256 + (y.toNat : Int) :=
          bits_join .i32 31 (by decide) wraps_i32 8 _ _ (by omega) (by omega) (by omega) (by omega) (by omega) (by omega)
        have hw1 : wrap32 (x.toNat : Int) = (x.toNat : Int) := by unfold wrap32; omega
        have hw2 : wrap32 (y.toNat : Int) = (y.toNat : Int) := by unfold wrap32; omega
        have hw3 : wrap32 ((x.toNat : Int) * 256) = (x.toNat : Int) * 256 := by unfold wrap32; omega
        obtain ⟨P, hP⟩ : ∃ P : ByteArray, (⟨#[x, y]⟩ : ByteArray) = P := ⟨_, rfl⟩
        have hP2 : P.size = 2 := by rw [← hP]; rfl
        have hP0 : P[0]'(by omega) = x := by subst hP; rfl
        have hP1 : P[1]'(by omega) = y := by subst hP; rfl
        rw [hP] at hunx
        clear hl hT hpre ht HX hU hL hf hLs hx hy hx2 hy2 hP
        go_enter Tryz.func129, Tryz.ntmps129
        go_wp2_with (first
          | (go_at_call 94; refine (hp _).mono ?_; first | rintro e w' rfl rfl | rintro e w' ⟨rfl, rfl⟩)
          | (go_at_call 133; refine hlow.mono ?_))
        first | rintro e W1 rfl b1 | rintro e W1 ⟨rfl, b1⟩
        have B1 := Lib.hid b1
        have S1 := b1.size
        clear b1
        go_wp2_with (go_at_call 132; refine (hunx _).mono ?_)
        first | rintro e W2 rfl b2 | rintro e W2 ⟨rfl, b2⟩
        have B2 := Lib.hid (B1.out.trans (below_low S1 b2))
        clear b2
        go_wp2_with fail
        go_region
        go_wp2_with fail
        go_ret2
        refine ⟨?_, B2.out.drew⟩
        rw [HU.out]
        show _ = Ending.returned (.tuple #[.int .i32 (n : Int), .bool true])
        rw [← hN.out]
        rfl
end Go.Proofs.YtaniebkfgkhgoaaGreatDoor

namespace Go.Proofs.YtaniebkfgkhgoaaGreatDoor
open Go.RowKit
set_option linter.unusedVariables false

def escS : Option (Nat × Nat) → Value
  | some (n, k) => .tuple #[.int .i32 (n : Int), .int .i64 (k : Int)]
  | none => .tuple #[.int .i32 0, .int .i64 0]

set_option maxRecDepth 1000000 in
theorem name_ix : ∀ c : Fin 256, (0 < namedG c.val ∧ c.val ≠ 47 → 0 ≤ Lib.indexByte [34, 92, 98, 102, 110, 114, 116] (UInt8.ofNat c.val) ∧ Lib.indexByte [34, 92, 98, 102, 110, 114, 116] (UInt8.ofNat c.val) < 7 ∧ ([34, 92, 8, 12, 10, 13, 9] : List Nat).getD (Lib.indexByte [34, 92, 98, 102, 110, 114, 116] (UInt8.ofNat c.val)).toNat 0 = namedG c.val) ∧
    (¬ (0 < namedG c.val ∧ c.val ≠ 47) → Lib.indexByte [34, 92, 98, 102, 110, 114, 116] (UInt8.ofNat c.val) = -1) := by decide

theorem lettersAt (i : Nat) (hi : i < 7) (h : i < (⟨#[34, 92, 8, 12, 10, 13, 9]⟩ : ByteArray).size) : ((⟨#[34, 92, 8, 12, 10, 13, 9]⟩ : ByteArray)[i]'h).toNat = ([34, 92, 8, 12, 10, 13, 9] : List Nat).getD i 0 := by
  rcases i with _ | _ | _ | _ | _ | _ | _ | i
  all_goals first | rfl | omega

set_option maxHeartbeats 1000000 in
theorem escape_any (s : ByteArray) (t : List UInt8) (ht : s.data.toList = 92 :: t) (w : World) (hT : TabsW w) (hs : s.size ≤ 1099511627776) :
    Calls Tryz.prog 122 #[.string s] w fun e w' => e = .returned (escS (escG s.data.toList)) ∧ Below w.heap.size w w' := by
  have hl : s.data.toList.length = s.size := by simp
  obtain ⟨O, hO⟩ : ∃ O, O = escS (escG s.data.toList) := ⟨_, rfl⟩
  rw [← hO]
  have HO := Lib.hid hO
  clear hO
  match t, ht with
  | [], ht =>
    have HE : Hid (escG s.data.toList = none) := by show _ = _; rw [ht]; rfl
    have h1 : (s.size : Int) < 2 := by rw [ht] at hl; simp at hl; omega
    clear hl ht hT
    go_enter Tryz.func122, Tryz.ntmps122
    go_wp2_with fail
    go_ret2
    exact ⟨by rw [HO.out, HE.out]; rfl, Below.refl _ _⟩
  | c :: t, ht =>
    have h2n : 2 ≤ s.size := by rw [ht] at hl; simp at hl; omega
    have h2 : ¬ (s.size : Int) < 2 := by omega
    have h1n : 1 < s.size := h2n
    have hc : s[1]'h1n = c := by
      have : s.data.toList[1]? = some c := by rw [ht]; rfl
      rw [Lib.data_getElem? s 1 h1n] at this
      exact Option.some.inj this
    have hesc : escG s.data.toList = if 0 < namedG c.toNat then some (namedG c.toNat, 2) else longG s.data.toList := by rw [ht]; rfl
    have hix := name_ix ⟨c.toNat, UInt8.toNat_lt c⟩
    simp only [UInt8.ofNat_toNat] at hix
    have hib := fun w0 => Tryz.strings_IndexByte ⟨#[34, 92, 98, 102, 110, 114, 116]⟩ (c.toNat : Int) w0
    rw [Lib.toByte _ c rfl] at hib
    change ∀ w0, Calls Tryz.prog 123 #[.string ⟨#[34, 92, 98, 102, 110, 114, 116]⟩, .int .u8 (c.toNat : Int)] w0 fun e w' => e = .returned (.int .i64 (Lib.indexByte [34, 92, 98, 102, 110, 114, 116] c)) ∧ w' = w0 at hib
    by_cases hn : 0 < namedG c.toNat ∧ c.toNat ≠ 47
    · obtain ⟨i0, i7, il⟩ := hix.1 hn
      obtain ⟨i, hi⟩ : ∃ i : Nat, Lib.indexByte [34, 92, 98, 102, 110, 114, 116] c = (i : Int) := ⟨(Lib.indexByte [34, 92, 98, 102, 110, 114, 116] c).toNat, by omega⟩
      rw [hi] at hib i7 il
      have hi7 : i < 7 := by omega
      have HLt := Lib.hid (fun h => (lettersAt i hi7 h).trans (by simpa using il))
      have HE : Hid (escG s.data.toList = some (namedG c.toNat, 2)) := by show _ = _; rw [hesc, if_pos hn.1]
      have hi8 : (i : Int) < 7 := by omega
      have hi9 : (0 : Int) ≤ (i : Int) := by omega
      have HNM := Lib.hid (namedG_facts _ hn.1)
      clear hl ht hT hix hesc hn il i0 i7 hi
      go_enter Tryz.func122, Tryz.ntmps122
      go_wp2_with (go_at_call 123; refine (hib _).mono ?_; first | rintro e w' rfl rfl | rintro e w' ⟨rfl, rfl⟩)
      go_ret2
      refine ⟨?_, Below.refl _ _⟩
      rw [HO.out, HE.out]
      have e1 := HLt.out (by show i < 7; omega)
      have e2 := HNM.out
      have e4 : wrap32 (((⟨#[34, 92, 8, 12, 10, 13, 9]⟩ : ByteArray)[i]'(by show i < 7; omega)).toNat : Int) = (namedG c.toNat : Int) := by rw [e1]; unfold wrap32; omega
      exact congrArg (fun z => Ending.returned (.tuple #[.int .i32 z, .int .i64 2])) e4
    · have hi := hix.2 hn
      rw [hi] at hib
      by_cases h47 : c.toNat = 47
      · have HE : Hid (escG s.data.toList = some (47, 2)) := by show _ = _; rw [hesc, h47]; rfl
        have hct : ((c.toNat : Int) == 47) = true := by simp; omega
        clear hl ht hT hix hesc hn hi h47
        go_enter Tryz.func122, Tryz.ntmps122
        go_wp2_with (go_at_call 123; refine (hib _).mono ?_; first | rintro e w' rfl rfl | rintro e w' ⟨rfl, rfl⟩)
        go_ret2
        exact ⟨by rw [HO.out, HE.out]; rfl, Below.refl _ _⟩
      · have hct : ((c.toNat : Int) == 47) = false := by simp; omega
        have hesc2 : escG s.data.toList = longG s.data.toList := by rw [hesc, if_neg (fun h => hn ⟨h, h47⟩)]
        have hun := unit_any s w hT hs
        cases hu : unitG s.data.toList with
        | none =>
          have HE : Hid (escG s.data.toList = none) := by show _ = _; rw [hesc2]; unfold longG; rw [hu]
          rw [hu] at hun
          change Calls Tryz.prog 129 #[.string s] w fun e w' => e = .returned (.tuple #[.int .i32 0, .bool false]) ∧ Below w.heap.size w w' at hun
          clear hl ht hT hix hesc hn hi hesc2 hu h47
          go_enter Tryz.func122, Tryz.ntmps122
          go_wp2_with (go_at_call 123; refine (hib _).mono ?_; first | rintro e w' rfl rfl | rintro e w' ⟨rfl, rfl⟩)
          go_wp2_with (go_at_call 129; refine hun.mono ?_)
          first | rintro e W1 rfl b1 | rintro e W1 ⟨rfl, b1⟩
          have B2 := Lib.hid b1
          clear b1
          go_wp2_with fail
          go_ret2
          exact ⟨by rw [HO.out, HE.out]; rfl, B2.out⟩
        | some n =>
          obtain ⟨un1, un2, _, _⟩ := unitG_facts hu
          rw [hu] at hun
          change Calls Tryz.prog 129 #[.string s] w fun e w' => e = .returned (.tuple #[.int .i32 (n : Int), .bool true]) ∧ Below w.heap.size w w' at hun
          obtain ⟨z, hz⟩ : ∃ z : Int, z = (n : Int) := ⟨_, rfl⟩
          rw [← hz] at hun
          have HZ := Lib.hid hz
          by_cases hlet : n < 55296 ∨ 57344 ≤ n
          · have HE : Hid (escG s.data.toList = some (n, 6)) := by show _ = _; rw [hesc2]; unfold longG; rw [hu]; simp only; rw [if_pos hlet]
            have hcs : (z < 56320 ∧ z < 55296) ∨ (56320 ≤ z ∧ ¬ z < 57344 ∧ ¬ z < 55296 ∧ 57344 ≤ z) := by omega
            clear hl ht hT hix hesc hn hi hesc2 hu h47 hlet hz un1
            rcases hcs with ⟨k1, k2⟩ | ⟨k1, k2, k3, k4⟩
            all_goals
              go_enter Tryz.func122, Tryz.ntmps122
              go_wp2_with (go_at_call 123; refine (hib _).mono ?_; first | rintro e w' rfl rfl | rintro e w' ⟨rfl, rfl⟩)
              go_wp2_with (go_at_call 129; refine hun.mono ?_)
              first | rintro e W1 rfl b1 | rintro e W1 ⟨rfl, b1⟩
              have B2 := Lib.hid b1
              clear b1
              go_wp2_with fail
              go_ret2
              refine ⟨?_, B2.out⟩
              rw [HO.out, HE.out]
              show _ = Ending.returned (.tuple #[.int .i32 (n : Int), .int .i64 6])
              rw [← HZ.out]
              rfl
          · by_cases hlow : 56320 ≤ n
            · have HE : Hid (escG s.data.toList = none) := by show _ = _; rw [hesc2]; unfold longG; rw [hu]; simp only; rw [if_neg hlet, if_pos hlow]
              have k1 : (56320 : Int) ≤ z := by omega
              have k2 : z < 57344 := by omega
              clear hl ht hT hix hesc hn hi hesc2 hu h47 hlet hlow hz un1
              go_enter Tryz.func122, Tryz.ntmps122
              go_wp2_with (go_at_call 123; refine (hib _).mono ?_; first | rintro e w' rfl rfl | rintro e w' ⟨rfl, rfl⟩)
              go_wp2_with (go_at_call 129; refine hun.mono ?_)
              first | rintro e W1 rfl b1 | rintro e W1 ⟨rfl, b1⟩
              have B2 := Lib.hid b1
              clear b1
              go_wp2_with fail
              go_ret2
              exact ⟨by rw [HO.out, HE.out]; rfl, B2.out⟩
            · have hsize : 6 ≤ s.size := by omega
              have HX : (s.extract 6 s.size).data.toList = s.data.toList.drop 6 := ext_list s 6
              have hun2 : ∀ w0, TabsW w0 → Calls Tryz.prog 129 #[.string (s.extract 6 s.size)] w0 fun e w' => e = .returned (unitS (unitG (s.data.toList.drop 6))) ∧ Below w0.heap.size w0 w' := fun w0 hT0 => by
                rw [← HX]
                exact unit_any _ _ hT0 (by rw [Lib.size_eq, HX, List.length_drop]; omega)
              have k1 : z < 56320 := by omega
              have k2 : ¬ z < 55296 := by omega
              have k3 : ¬ (57344 : Int) ≤ z := by omega
              have k4 : (6 : Int) ≤ (s.size : Int) := by omega
              have hT := Lib.hid hT
              cases hu2 : unitG (s.data.toList.drop 6) with
              | none =>
                have HE : Hid (escG s.data.toList = none) := by show _ = _; rw [hesc2]; unfold longG; rw [hu]; simp only; rw [if_neg hlet, if_neg hlow, hu2]
                rw [hu2] at hun2
                change ∀ w0, TabsW w0 → Calls Tryz.prog 129 #[.string (s.extract 6 s.size)] w0 fun e w' => e = .returned (.tuple #[.int .i32 0, .bool false]) ∧ Below w0.heap.size w0 w' at hun2
                clear hl ht hix hesc hn hi hesc2 hu h47 hlet hlow HX hu2 hz un1
                go_enter Tryz.func122, Tryz.ntmps122
                go_wp2_with (go_at_call 123; refine (hib _).mono ?_; first | rintro e w' rfl rfl | rintro e w' ⟨rfl, rfl⟩)
                go_wp2_with (go_at_call 129; refine hun.mono ?_)
                first | rintro e W1 rfl b1 | rintro e W1 ⟨rfl, b1⟩
                have T1 := hT.out.below b1
                have B1 := Lib.hid b1
                have S1 := b1.size
                clear b1
                go_wp2_with (go_at_call 129; refine (hun2 _ T1).mono ?_)
                first | rintro e W2 rfl b2 | rintro e W2 ⟨rfl, b2⟩
                have B2 := Lib.hid (B1.out.trans (below_low S1 b2))
                clear b2
                go_wp2_with fail
                go_ret2
                exact ⟨by rw [HO.out, HE.out]; rfl, B2.out⟩
              | some m =>
                obtain ⟨um1, um2, _, _⟩ := unitG_facts hu2
                rw [hu2] at hun2
                change ∀ w0, TabsW w0 → Calls Tryz.prog 129 #[.string (s.extract 6 s.size)] w0 fun e w' => e = .returned (.tuple #[.int .i32 (m : Int), .bool true]) ∧ Below w0.heap.size w0 w' at hun2
                obtain ⟨y, hy⟩ : ∃ y : Int, y = (m : Int) := ⟨_, rfl⟩
                rw [← hy] at hun2
                by_cases hm : 56320 ≤ m ∧ m < 57344
                · have HE : Hid (escG s.data.toList = some (65536 + (n - 55296) * 1024 + (m - 56320), 12)) := by show _ = _; rw [hesc2]; unfold longG; rw [hu]; simp only; rw [if_neg hlet, if_neg hlow, hu2]; simp only; rw [if_pos hm]
                  have j1 : ¬ y < 56320 := by omega
                  have j2 : ¬ (57344 : Int) ≤ y := by omega
                  have w1 : wrap32 (z - 55296) = z - 55296 := by unfold wrap32; omega
                  have w2 : wrap32 ((z - 55296) * 1024) = (z - 55296) * 1024 := by unfold wrap32; omega
                  have w3 : wrap32 (65536 + (z - 55296) * 1024) = 65536 + (z - 55296) * 1024 := by unfold wrap32; omega
                  have w4 : wrap32 (y - 56320) = y - 56320 := by unfold wrap32; omega
                  have w5 : wrap32 (65536 + (z - 55296) * 1024 + (y - 56320)) = 65536 + (z - 55296) * 1024 + (y - 56320) := by unfold wrap32; omega
                  have HN := Lib.hid (show ((65536 + (n - 55296) * 1024 + (m - 56320) : Nat) : Int) = 65536 + (z - 55296) * 1024 + (y - 56320) by omega)
                  clear hl ht hix hesc hn hi hesc2 hu h47 hlet hlow HX hu2 hm hz hy un1 um1
                  go_enter Tryz.func122, Tryz.ntmps122
                  go_wp2_with (go_at_call 123; refine (hib _).mono ?_; first | rintro e w' rfl rfl | rintro e w' ⟨rfl, rfl⟩)
                  go_wp2_with (go_at_call 129; refine hun.mono ?_)
                  first | rintro e W1 rfl b1 | rintro e W1 ⟨rfl, b1⟩
                  have T1 := hT.out.below b1
                  have B1 := Lib.hid b1
                  have S1 := b1.size
                  clear b1
                  go_wp2_with (go_at_call 129; refine (hun2 _ T1).mono ?_)
                  first | rintro e W2 rfl b2 | rintro e W2 ⟨rfl, b2⟩
                  have B2 := Lib.hid (B1.out.trans (below_low S1 b2))
                  clear b2
                  go_wp2_with fail
                  go_ret2
                  refine ⟨?_, B2.out⟩
                  rw [HO.out, HE.out]
                  show _ = Ending.returned (.tuple #[.int .i32 ((65536 + (n - 55296) * 1024 + (m - 56320) : Nat) : Int), .int .i64 12])
                  rw [HN.out]
                  rfl
                · have HE : Hid (escG s.data.toList = none) := by show _ = _; rw [hesc2]; unfold longG; rw [hu]; simp only; rw [if_neg hlet, if_neg hlow, hu2]; simp only; rw [if_neg hm]
                  have hcs : y < 56320 ∨ (¬ y < 56320 ∧ 57344 ≤ y) := by omega
                  clear hl ht hix hesc hn hi hesc2 hu h47 hlet hlow HX hu2 hm hz hy un1 um1
                  rcases hcs with j1 | ⟨j1, j2⟩
                  all_goals
                    go_enter Tryz.func122, Tryz.ntmps122
                    go_wp2_with (go_at_call 123; refine (hib _).mono ?_; first | rintro e w' rfl rfl | rintro e w' ⟨rfl, rfl⟩)
                    go_wp2_with (go_at_call 129; refine hun.mono ?_)
                    first | rintro e W1 rfl b1 | rintro e W1 ⟨rfl, b1⟩
                    have T1 := hT.out.below b1
                    have B1 := Lib.hid b1
                    have S1 := b1.size
                    clear b1
                    go_wp2_with (go_at_call 129; refine (hun2 _ T1).mono ?_)
                    first | rintro e W2 rfl b2 | rintro e W2 ⟨rfl, b2⟩
                    have B2 := Lib.hid (B1.out.trans (below_low S1 b2))
                    clear b2
                    go_wp2_with fail
                    go_ret2
                    exact ⟨by rw [HO.out, HE.out]; rfl, B2.out⟩
end Go.Proofs.YtaniebkfgkhgoaaGreatDoor

namespace Go.Proofs.YtaniebkfgkhgoaaGreatDoor
open Go.RowKit
set_option linter.unusedVariables false
set_option maxRecDepth 100000

/-- What Unquote answers. -/
def unqS : Option (List UInt8 × Nat) → Value
  | some (l, m) => .tuple #[.string ⟨l.toArray⟩, .int .i64 (m : Int), .int .i64 0]
  | none => .tuple #[.string ⟨#[]⟩, .int .i64 0, .int .i64 2]

theorem unquoted_any (t : ByteArray) (z : Int) (w : World) (hz : z ≤ 524288) :
    Calls Tryz.prog 121 #[.string t, .int .i64 z] w fun e w' => e = .returned (.tuple #[.string t, .int .i64 z, .int .i64 0]) ∧ w' = w := by
  go_enter Tryz.func121, Tryz.ntmps121
  go_wp2_with fail
  go_ret3
  exact ⟨rfl, rfl⟩

/-- What a round of the loop needs to know at place q. -/
theorem unq_end {f : Nat} {l acc : List UInt8} {q : Nat} (hd : l.drop q = []) : unqGo f (l.drop q) acc q = none := by
  rw [hd]; cases f <;> rfl
theorem unq_stop {f : Nat} {l acc : List UInt8} {q : Nat} {t : List UInt8} (hd : l.drop q = 34 :: t) (hf : (l.drop q).length < f) : unqGo f (l.drop q) acc q = some (acc, q + 1) := by
  obtain ⟨f, rfl⟩ : ∃ f', f = f' + 1 := ⟨f - 1, by omega⟩
  rw [hd]; simp only [unqGo, if_true]
theorem unq_bad {f : Nat} {l acc : List UInt8} {q : Nat} {a : UInt8} {t : List UInt8} (hd : l.drop q = a :: t) (hf : (l.drop q).length < f) (ha : a ≠ 34) (ho : oneG (a :: t) = none) : unqGo f (l.drop q) acc q = none := by
  obtain ⟨f, rfl⟩ : ∃ f', f = f' + 1 := ⟨f - 1, by omega⟩
  rw [hd]; simp only [unqGo]; rw [if_neg ha, ho]
theorem unq_on {f : Nat} {l acc : List UInt8} {q : Nat} {a : UInt8} {t : List UInt8} {n k : Nat} (hd : l.drop q = a :: t) (hf : (l.drop q).length < f) (ha : a ≠ 34) (ho : oneG (a :: t) = some (n, k)) :
    ∃ f', unqGo f (l.drop q) acc q = unqGo f' (l.drop (q + k)) (acc ++ enc n) (q + k) ∧ (l.drop (q + k)).length < f' := by
  obtain ⟨f, rfl⟩ : ∃ f', f = f' + 1 := ⟨f - 1, by omega⟩
  have hk := (oneG_facts ho).2
  refine ⟨f, ?_, ?_⟩
  · have e : (a :: t).drop k = l.drop (q + k) := by rw [← hd, List.drop_drop]
    rw [hd]; simp only [unqGo]; rw [if_neg ha, ho]; simp only; rw [e]
  · rw [← hd] at hk
    rw [List.length_drop] at *; omega

theorem unquote_any (s : ByteArray) (w : World) (hT : TabsW w) (hs : s.size ≤ 500000) :
    Calls Tryz.prog 113 #[.string s] w fun e w' => e = .returned (unqS (unqG s.data.toList)) ∧ Below w.heap.size w w' := by
  have hl : s.data.toList.length = s.size := by simp
  obtain ⟨O, hO⟩ : ∃ O, O = unqS (unqG s.data.toList) := ⟨_, rfl⟩
  rw [← hO]
  have HO := Lib.hid hO
  clear hO
  have hp := fun w0 => Tryz.strings_HasPrefix s ⟨#[34]⟩ w0
  change ∀ w0, Calls Tryz.prog 94 #[.string s, .string ⟨#[34]⟩] w0 fun e w' => e = .returned (.bool (Lib.hasPrefix s.data.toList [34])) ∧ w' = w0 at hp
  cases hpre : Lib.hasPrefix s.data.toList [34] with
  | false =>
    have HE : Hid (unqG s.data.toList = none) := by
      show unqG s.data.toList = none
      cases hd : s.data.toList with
      | nil => rfl
      | cons a t =>
        simp only [unqG]
        rw [if_neg]
        rintro rfl
        rw [hd] at hpre
        revert hpre
        show List.isPrefixOf [34] (34 :: t) = false → False
        simp [List.isPrefixOf]
    rw [hpre] at hp
    clear hl hT hpre
    go_enter Tryz.func113, Tryz.ntmps113
    go_wp2_with (go_at_call 94; refine (hp _).mono ?_; (first | rintro e v rfl hv | rintro e v ⟨rfl, hv⟩); rw [hv]; clear hv)
    go_ret3
    exact ⟨by rw [HO.out, HE.out]; rfl, Below.refl _ _⟩
  | true =>
    obtain ⟨t0, ht0⟩ : ∃ t, s.data.toList = 34 :: t := by
      have : [34] <+: s.data.toList := List.isPrefixOf_iff_prefix.1 hpre
      obtain ⟨t, e⟩ := this
      exact ⟨t, e.symm⟩
    have hsz1 : 1 ≤ s.size := by rw [ht0] at hl; simp at hl; omega
    have HQ0 := Lib.hid (show unqGo (t0.length + 1) (s.data.toList.drop 1) [] 1 = unqG s.data.toList by rw [ht0]; simp only [unqG, List.drop_succ_cons, List.drop_zero]; rw [if_pos trivial])
    have HT0 := Lib.hid ht0
    have HL := Lib.hid hl
    have HT := Lib.hid hT
    rw [hpre] at hp
    clear hl hT hpre ht0
    go_enter Tryz.func113, Tryz.ntmps113
    go_wp2_with (go_at_call 94; refine (hp _).mono ?_; (first | rintro e v rfl hv | rintro e v ⟨rfl, hv⟩); rw [hv]; clear hv)
    clear hp
    have S0 : w.heap.size < (w.alloc (.cells #[.pointer none, .slice none 0 0] 56)).heap.size := by simp
    go_wp2_with fail
    go_loopw [6] (fun nx wr => ∃ (pos q next f : Nat) (acc : List UInt8), nx = .int .i64 next ∧ pos ≤ q ∧ q ≤ s.size ∧ next ≤ q ∧ (pos < q → next = q) ∧ Hid (∀ j (h : j < s.size), pos ≤ j → j < q → (s[j]'h).toNat < 128) ∧ Hid (unqGo f (s.data.toList.drop q) acc q = unqG s.data.toList) ∧ Hid ((s.data.toList.drop q).length < f) ∧ Bd w.heap.size acc wr ∧ wr.heap[w.heap.size + 1]? = some (.stringIter s pos) ∧ Hid (Below w.heap.size w wr) ∧ Hid (acc.length ≤ 4 * q)) (fun _ wr => s.size - wr.iterPos (w.heap.size + 1))
    case atStart =>
      refine ⟨0, 1, 1, t0.length + 1, [], rfl, by omega, hsz1, by omega, fun _ => rfl, ?_, HQ0.out, ?_, (fresh_Bd w).alloc _, ?_, ((Below.refl _ w).alloc (Nat.le_refl _) _).alloc (by simp) _, by show 0 ≤ _; omega⟩
      · intro j h _ h1
        have hj : j = 0 := by omega
        subst hj
        have := Lib.data_getElem? s 0 h
        rw [HT0.out] at this
        simp at this
        rw [← this]; decide
      · show (s.data.toList.drop 1).length < _
        rw [HT0.out]; simp
      · have := World.iter_heap (w.alloc (.cells #[.pointer none, .slice none 0 0] 56)) s 0
        simpa using this
    case round =>
      obtain ⟨pos, q, next, f, acc, rfl, hpq, hqs, hnq, hpn, hasc, hun, hfu, hI, hit, hbel, hal⟩ := hrel
      have hszw : w.heap.size + 1 < wr.heap.size := (Array.getElem?_eq_some_iff.1 hit).1
      by_cases hp : pos < s.size
      · by_cases hlt : pos < q
        · obtain ⟨y, hy⟩ : ∃ y, s[pos]'hp = y := ⟨_, rfl⟩
          have hy0 : (s[pos]'hp).toNat < 128 := hasc.out pos hp (Nat.le_refl _) hlt
          have hnx : ∀ ty, (Instr.next (.pointer (some ⟨w.heap.size + 1, 0, none⟩)) true ty).run Tryz.prog wr = .ok (.tuple #[.bool true, .int .i64 pos, .int .i32 (y.toNat : Int)]) (wr.iterAt (w.heap.size + 1) s (pos + 1)) := fun ty => by
            rw [Lib.run_next_ascii_at wr (w.heap.size + 1) s pos ty hit hp hy0, hy]
          have hit2 := Lib.iterAt_heap wr (w.heap.size + 1) s pos (pos + 1) hit
          have hI2 := hI.iterAt hit (pos + 1)
          have hbw2 := Lib.hid (Lib.below_iterAt hbel.out (k := w.heap.size + 1) (by omega) s (pos + 1))
          have hq := hpn hlt
          have hlt2 : (pos : Int) < (next : Int) := by omega
          have HPQ := Lib.hid (show pos + 1 ≤ q from hlt)
          have HQ := Lib.hid hq
          clear hy0 hy hbel hI hpn hq
          go_wp2_with fail
          go_roundw
          case rel => exact ⟨pos + 1, q, next, f, acc, rfl, HPQ.out, hqs, hnq, fun _ => HQ.out, fun j h h1 h2 => hasc.out j h (by omega) h2, hun.out, hfu.out, hI2, hit2, hbw2.out, hal.out⟩
          case measure =>
            simp only [World.iterPos, hit2, hit]
            omega
        · have hpq' : pos = q := by omega
          subst hpq'
          cases hd : s.data.toList.drop pos with
          | nil =>
            exfalso
            have := congrArg List.length hd
            rw [List.length_drop, HL.out] at this; simp at this; omega
          | cons a t =>
            have hni : ¬ (pos : Int) < (next : Int) := by omega
            have hdl := Lib.decodeL_drop s pos
            rw [hd] at hdl
            have hnx0 := fun ty => Lib.run_next_any_at (P := Tryz.prog) wr (w.heap.size + 1) s pos ty hit hp
            have HD := Lib.hid hd
            by_cases ha : a = 34
            · subst ha
              have HE := Lib.hid (show unqG s.data.toList = some (acc, pos + 1) by rw [← hun.out]; exact unq_stop hd hfu.out)
              rw [Lib.decodeL_ascii _ _ (by decide)] at hdl
              rw [← hdl] at hnx0
              change ∀ ty, (Instr.next (.pointer (some ⟨w.heap.size + 1, 0, none⟩)) true ty).run Tryz.prog wr = .ok (.tuple #[.bool true, .int .i64 pos, .int .i32 34]) (wr.iterAt (w.heap.size + 1) s (pos + 1)) at hnx0
              have hI2 := hI.iterAt hit (pos + 1)
              have hbw2 := Lib.hid (Lib.below_iterAt hbel.out (k := w.heap.size + 1) (by omega) s (pos + 1))
              have hsz2 : w.heap.size ≤ (wr.iterAt (w.heap.size + 1) s (pos + 1)).heap.size := by rw [Lib.iterAt_size]; omega
              clear hdl hd hun hfu hasc hI hbel
              generalize wr.iterAt (w.heap.size + 1) s (pos + 1) = wq at hnx0 hI2 hbw2 hsz2
              go_wp2_with (go_at_call 29; refine (bString w.heap.size acc _ hI2 hsz2).mono ?_)
              first | rintro e W3 rfl a3 | rintro e W3 ⟨rfl, a3⟩
              have L3 := Lib.hid (hbw2.out.trans a3.1)
              clear a3
              go_wp2_with (go_at_call 121; refine (unquoted_any _ _ _ (by omega)).mono ?_; (first | rintro e v rfl hv | rintro e v ⟨rfl, hv⟩); rw [hv]; clear hv)
              go_ret3
              exact ⟨by rw [HO.out, HE.out]; rfl, L3.out⟩
            · have hne34 : ∀ z : Int, z = 34 → a.toNat = 34 → False := fun z _ h => ha (UInt8.toNat_inj.1 h)
              have hsp : s[pos]'hp = a := by
                have h1 := Lib.data_getElem? s pos hp
                have h2 : (s.data.toList.drop pos)[0]? = some a := by rw [hd]; rfl
                rw [List.getElem?_drop, Nat.add_zero, h1] at h2
                exact Option.some.inj h2
              by_cases hb : a = 92
              · subst hb
                rw [Lib.decodeL_ascii _ _ (by decide)] at hdl
                have hbk := fun w0 => broken_at s pos hp false (by rw [hd, letter_ascii _ _ (by decide)]; rfl) w0
                rw [← hdl] at hnx0 hbk
                change ∀ ty, (Instr.next (.pointer (some ⟨w.heap.size + 1, 0, none⟩)) true ty).run Tryz.prog wr = .ok (.tuple #[.bool true, .int .i64 pos, .int .i32 92]) (wr.iterAt (w.heap.size + 1) s (pos + 1)) at hnx0
                change ∀ w0, Calls Tryz.prog 84 #[.int .i32 92, .string (s.extract pos s.size)] w0 fun e w' => e = .returned (.bool false) ∧ w' = w0 at hbk
                have hit2 := Lib.iterAt_heap wr (w.heap.size + 1) s pos (pos + 1) hit
                have hI2 := hI.iterAt hit (pos + 1)
                have hbw2 := Lib.iterAt_size wr (w.heap.size + 1) s (pos + 1)
                have hbw3 := Lib.below_iterAt hbel.out (k := w.heap.size + 1) (by omega) s (pos + 1)
                have hsz2 : w.heap.size + 1 < (wr.iterAt (w.heap.size + 1) s (pos + 1)).heap.size := by omega
                have T2 := HT.out.below hbw3
                have HB3 := Lib.hid hbw3
                have HX : (s.extract pos s.size).data.toList = 92 :: t := (ext_list s pos).trans hd
                have hes := fun w0 (h0 : TabsW w0) => escape_any (s.extract pos s.size) t HX w0 h0 (by rw [Lib.size_eq, HX, ← hd, List.length_drop, HL.out]; omega)
                rw [HX] at hes
                have hone : oneG (92 :: t) = escG (92 :: t) := by simp only [oneG, if_true]
                have HT2 := Lib.hid T2
                clear hdl hI hbel hbw2 hbw3 T2 hne34 HX
                generalize wr.iterAt (w.heap.size + 1) s (pos + 1) = wq at hnx0 hI2 hit2 HB3 hsz2 HT2
                cases hesc : escG (92 :: t) with
                | none =>
                  have HE := Lib.hid (show unqG s.data.toList = none by rw [← hun.out]; exact unq_bad hd hfu.out ha (hone.trans hesc))
                  rw [hesc] at hes
                  change ∀ w0, TabsW w0 → Calls Tryz.prog 122 #[.string (s.extract pos s.size)] w0 fun e w' => e = .returned (.tuple #[.int .i32 0, .int .i64 0]) ∧ Below w0.heap.size w0 w' at hes
                  clear hd hesc hone hun hfu hasc ha hsp
                  go_wp2_with (first
                    | (go_at_call 84; refine (hbk _).mono ?_; (first | rintro e v rfl hv | rintro e v ⟨rfl, hv⟩); rw [hv]; clear hv)
                    | (go_at_call 122; refine (hes _ HT2.out).mono ?_))
                  first | rintro e W3 rfl b3 | rintro e W3 ⟨rfl, b3⟩
                  have L3 := Lib.hid (HB3.out.trans (below_low (by omega) b3))
                  clear b3
                  go_wp2_with fail
                  go_ret3
                  exact ⟨by rw [HO.out, HE.out]; rfl, L3.out⟩
                | some x =>
                  obtain ⟨n, k⟩ := x
                  obtain ⟨il, ik1, ik2, ik3, ik4⟩ := escG_facts rfl hesc
                  obtain ⟨f', hu1, hu2⟩ := unq_on hd hfu.out ha (hone.trans hesc) (acc := acc)
                  have HU1 := Lib.hid (hu1.symm.trans hun.out)
                  have HU2 := Lib.hid hu2
                  have hk3 : pos + k ≤ s.size := by rw [← hd, List.length_drop, HL.out] at ik3; omega
                  have HA := Lib.hid (show ∀ j (h : j < s.size), pos + 1 ≤ j → j < pos + k → (s[j]'h).toNat < 128 by
                    intro j h h1 h2
                    have hm : (s.data.toList.drop pos)[j - pos]? = some (s[j]'h) := by
                      rw [List.getElem?_drop, ← Lib.data_getElem? s j h]; congr 1; omega
                    rw [hd] at hm
                    have : ((92 :: t).take k)[j - pos]? = some (s[j]'h) := by rw [List.getElem?_take, if_pos (by omega)]; exact hm
                    exact ik4 _ (List.mem_of_getElem? this))
                  rw [hesc] at hes
                  obtain ⟨z, hz⟩ : ∃ z : Int, z = (n : Int) := ⟨_, rfl⟩
                  change ∀ w0, TabsW w0 → Calls Tryz.prog 122 #[.string (s.extract pos s.size)] w0 fun e w' => e = .returned (.tuple #[.int .i32 (n : Int), .int .i64 (k : Int)]) ∧ Below w0.heap.size w0 w' at hes
                  rw [← hz] at hes
                  have HZ0 : -2147483648 ≤ z := by omega
                  have HZ1 : z ≤ 2147483647 := by unfold isLet at il; omega
                  have HEN := Lib.hid (show Lib.encodeRune z = enc n by rw [hz]; rfl)
                  have hk0 : ((k : Int) == 0) = false := by simp; omega
                  have HEL := Lib.hid (enc_len n)
                  have hkw : IntKind.i64.wrap ((pos : Int) + (k : Int)) = (pos : Int) + (k : Int) := IntWalk.i64_in _ (by omega)
                  clear hd hesc hone hun hfu hasc ha hsp hz il ik4 hu1 hu2 ik3
                  go_wp2_with (first
                    | (go_at_call 84; refine (hbk _).mono ?_; (first | rintro e v rfl hv | rintro e v ⟨rfl, hv⟩); rw [hv]; clear hv)
                    | (go_at_call 122; refine (hes _ HT2.out).mono ?_))
                  first | rintro e W1 rfl b1 | rintro e W1 ⟨rfl, b1⟩
                  have B1 := hI2.below b1
                  have hit1 : W1.heap[w.heap.size + 1]? = some (.stringIter s (pos + 1)) := (b1.block _ (by omega)).trans hit2
                  have S1 : w.heap.size ≤ W1.heap.size := by have := b1.size; omega
                  have L1 := Lib.hid (HB3.out.trans (below_low (by omega) b1))
                  clear b1 hI2 hes hbk hnx0
                  go_wp2_with (go_at_call 118; refine (wRune w.heap.size acc z HZ0 HZ1 _ B1 (by have := hal.out; omega) S1).mono ?_)
                  first | rintro e W3 ⟨_, rfl⟩ B3 a3 | rintro e W3 _ rfl B3 a3 | rintro e W3 ⟨⟨_, rfl⟩, B3, a3⟩
                  have hit3 := a3.2.iter hit1 (by omega)
                  have L3 := Lib.hid (L1.out.trans a3.1)
                  clear a3 B1
                  go_wp2_with fail
                  go_roundw
                  case rel => exact ⟨pos + 1, pos + k, pos + k, f', acc ++ enc n, by go_num, by omega, hk3, by omega, fun _ => rfl, HA.out, HU1.out, HU2.out, by rw [← HEN.out]; exact B3, hit3, L3.out, by show (acc ++ enc n).length ≤ _; have := HEL.out; have := hal.out; rw [List.length_append]; omega⟩
                  case measure =>
                    simp only [World.iterPos, hit3, hit]
                    omega
              · have hbig : ∀ z : Int, (z = (a.toNat : Int) ∨ 128 ≤ z) → (128 ≤ z ∨ z < 128) := fun z _ => by omega
                have hone : oneG (a :: t) = (match letterG (a :: t) with | none => none | some (n, k) => if n < 32 then none else some (n, k)) := by
                  simp only [oneG]; rw [if_neg hb]
                  cases letterG (a :: t) <;> rfl
                cases hL : letterG (a :: t) with
                | none =>
                  have hbk := fun w0 => broken_at s pos hp true (by rw [hd, hL]; rfl) w0
                  have hd2 := letter_none (by simp) hL
                  rw [hd2] at hdl
                  rw [← hdl] at hnx0 hbk
                  change ∀ ty, (Instr.next (.pointer (some ⟨w.heap.size + 1, 0, none⟩)) true ty).run Tryz.prog wr = .ok (.tuple #[.bool true, .int .i64 pos, .int .i32 65533]) (wr.iterAt (w.heap.size + 1) s (pos + 1)) at hnx0
                  change ∀ w0, Calls Tryz.prog 84 #[.int .i32 65533, .string (s.extract pos s.size)] w0 fun e w' => e = .returned (.bool true) ∧ w' = w0 at hbk
                  have HB3 := Lib.hid (Lib.below_iterAt hbel.out (k := w.heap.size + 1) (by omega) s (pos + 1))
                  have HE := Lib.hid (show unqG s.data.toList = none by rw [← hun.out]; exact unq_bad hd hfu.out ha (by rw [hone, hL]))
                  clear hdl hd hd2 hL hone hun hfu hasc hI hbel ha hb hsp hne34 hbig
                  generalize wr.iterAt (w.heap.size + 1) s (pos + 1) = wq at hnx0 HB3
                  go_wp2_with (go_at_call 84; refine (hbk _).mono ?_; (first | rintro e v rfl hv | rintro e v ⟨rfl, hv⟩); rw [hv]; clear hv)
                  go_ret3
                  exact ⟨by rw [HO.out, HE.out]; rfl, HB3.out⟩
                | some x =>
                  obtain ⟨n, k⟩ := x
                  obtain ⟨il, ik1, ik2, ik3, _, _, ik7⟩ := letter_facts hL
                  have hbk := fun w0 => broken_at s pos hp false (by rw [hd, hL]; rfl) w0
                  rw [ik7] at hdl
                  rw [← hdl] at hnx0 hbk
                  obtain ⟨z, hz⟩ : ∃ z : Int, z = (n : Int) := ⟨_, rfl⟩
                  change ∀ ty, (Instr.next (.pointer (some ⟨w.heap.size + 1, 0, none⟩)) true ty).run Tryz.prog wr = .ok (.tuple #[.bool true, .int .i64 pos, .int .i32 (n : Int)]) (wr.iterAt (w.heap.size + 1) s (pos + k)) at hnx0
                  change ∀ w0, Calls Tryz.prog 84 #[.int .i32 (n : Int), .string (s.extract pos s.size)] w0 fun e w' => e = .returned (.bool false) ∧ w' = w0 at hbk
                  rw [← hz] at hnx0 hbk
                  have hn34 : n ≠ 34 := by
                    intro h
                    have := (letter_low hL (by omega)).1
                    exact ha (UInt8.toNat_inj.1 (by rw [this, h]; rfl))
                  have hn92 : n ≠ 92 := by
                    intro h
                    have := (letter_low hL (by omega)).1
                    exact hb (UInt8.toNat_inj.1 (by rw [this, h]; rfl))
                  have hz34 : (z == 34) = false := by simp; omega
                  have hz92 : (z == 92) = false := by simp; omega
                  by_cases h32 : n < 32
                  · have HB3 := Lib.hid (Lib.below_iterAt hbel.out (k := w.heap.size + 1) (by omega) s (pos + k))
                    have HE := Lib.hid (show unqG s.data.toList = none by rw [← hun.out]; exact unq_bad hd hfu.out ha (by rw [hone, hL]; simp only; rw [if_pos h32]))
                    have hz32 : z < 32 := by omega
                    clear hdl hd hL hone hun hfu hasc hI hbel ha hb hsp hne34 hbig ik7 il hbk hz h32 hn34 hn92
                    generalize wr.iterAt (w.heap.size + 1) s (pos + k) = wq at hnx0 HB3
                    go_wp2_with fail
                    go_ret3
                    exact ⟨by rw [HO.out, HE.out]; rfl, HB3.out⟩
                  · have hz32 : ¬ z < 32 := by omega
                    obtain ⟨f', hu1, hu2⟩ := unq_on hd hfu.out ha (n := n) (k := k) (by rw [hone, hL]; simp only; rw [if_neg h32]) (acc := acc)
                    have HU1 := Lib.hid (hu1.symm.trans hun.out)
                    have HU2 := Lib.hid hu2
                    have hk3 : pos + k ≤ s.size := by rw [← hd, List.length_drop, HL.out] at ik3; omega
                    have hit1 := Lib.iterAt_heap wr (w.heap.size + 1) s pos (pos + k) hit
                    have B1 := hI.iterAt hit (pos + k)
                    have hbw2 := Lib.iterAt_size wr (w.heap.size + 1) s (pos + k)
                    have L1 := Lib.hid (Lib.below_iterAt hbel.out (k := w.heap.size + 1) (by omega) s (pos + k))
                    have S1 : w.heap.size ≤ (wr.iterAt (w.heap.size + 1) s (pos + k)).heap.size := by omega
                    have HZ0 : -2147483648 ≤ z := by omega
                    have HZ1 : z ≤ 2147483647 := by unfold isLet at il; omega
                    have HEN := Lib.hid (show Lib.encodeRune z = enc n by rw [hz]; rfl)
                    have HEL := Lib.hid (enc_len n)
                    clear hdl hd hL hone hun hfu hasc hI hbel hbw2 ha hb hsp hne34 hbig ik7 il hz h32 hn34 hn92 hu1 hu2 ik3
                    generalize wr.iterAt (w.heap.size + 1) s (pos + k) = wq at hnx0 hit1 B1 L1 S1
                    go_wp2_with (first
                      | (go_at_call 84; refine (hbk _).mono ?_; (first | rintro e v rfl hv | rintro e v ⟨rfl, hv⟩); rw [hv]; clear hv)
                      | (go_at_call 118; refine (wRune w.heap.size acc z HZ0 HZ1 _ B1 (by have := hal.out; omega) S1).mono ?_))
                    first | rintro e W3 ⟨_, rfl⟩ B3 a3 | rintro e W3 _ rfl B3 a3 | rintro e W3 ⟨⟨_, rfl⟩, B3, a3⟩
                    have hit3 := a3.2.iter hit1 (by omega)
                    have L3 := Lib.hid (L1.out.trans a3.1)
                    clear a3 B1
                    go_wp2_with fail
                    go_roundw
                    case rel => exact ⟨pos + k, pos + k, next, f', acc ++ enc n, rfl, Nat.le_refl _, hk3, by omega, fun h => by omega, fun j h h1 h2 => by omega, HU1.out, HU2.out, by rw [← HEN.out]; exact B3, hit3, L3.out, by show (acc ++ enc n).length ≤ _; have := HEL.out; have := hal.out; rw [List.length_append]; omega⟩
                    case measure =>
                      simp only [World.iterPos, hit3, hit]
                      omega
      · have hqz : q = s.size := by omega
        have HE := Lib.hid (show unqG s.data.toList = none by rw [← hun.out]; exact unq_end (List.drop_of_length_le (by rw [HL.out]; omega)))
        have hnx : ∀ ty, (Instr.next (.pointer (some ⟨w.heap.size + 1, 0, none⟩)) true ty).run Tryz.prog wr = _ := fun ty => Lib.run_next_end_at wr (w.heap.size + 1) s pos ty hit hp
        clear hun hfu hasc hI
        go_wp2_with fail
        go_ret3
        exact ⟨by rw [HO.out, HE.out]; rfl, hbel.out⟩
end Go.Proofs.YtaniebkfgkhgoaaGreatDoor

/- Contracts of the plain functions of package digits and its reference: hexValue, digit, value, number. They hold for every argument that the contract names; nothing is written. -/
import Derived.Test.YtgfpmjdkjflibaaRows
import Derived.Test.YtgfpmjdkjflibaaMath
import Derived.WalkKit
import Derived.LoopTactic
import Derived.ProofKit
import Derived.WalkSpells
import Derived.WalkLawsBesides
import Derived.Outline
import Derived.Lib.Hide
import Derived.Handy
import Derived.Lib.Strings
namespace Go.Proofs.Ytgfpmjdkjflibaa
open Go.RowKit
set_option linter.unusedVariables false

theorem ret_int {k : IntKind} {a b : Int} (h : a = b) : Ending.returned (.int k a) = .returned (.int k b) := by rw [h]

/-- The hexadecimal digit of a number below 16. -/
def hexD (n : Int) : Int := if n < 10 then 48 + n else 87 + n
/-- What a byte tells as a hexadecimal digit; 16: nothing. -/
def hexV (c : Int) : Int := if 48 ≤ c ∧ c ≤ 57 then c - 48 else if 97 ≤ c ∧ c ≤ 102 then c - 87 else 16

theorem digit_any (n : Int) (w : World) (h0 : 0 ≤ n) (h1 : n ≤ 15) :
    Calls Try.prog 24 #[.int .i64 n] w fun e w' => e = .returned (.int .u8 (hexD n)) ∧ w = w' := by
  unfold hexD
  by_cases h : n < 10
  · rw [if_pos h]
    go_enter Try.func24, Try.ntmps24
    go_wp2
    go_ret
    exact ⟨rfl, rfl⟩
  · rw [if_neg h]
    go_enter Try.func24, Try.ntmps24
    go_wp2
    go_ret
    exact ⟨ret_int (by omega), rfl⟩

theorem hexValue_any (c : Int) (w : World) (h0 : 0 ≤ c) (h1 : c ≤ 255) :
    Calls Try.prog 22 #[.int .u8 c] w fun e w' => e = .returned (.int .u8 (hexV c)) ∧ w = w' := by
  have H : ∀ v, hexV c = v → Calls Try.prog 22 #[.int .u8 c] w fun e w' => e = .returned (.int .u8 v) ∧ w = w' := by
    intro v hv
    have HV := Lib.hid hv
    clear hv
    go_enter Try.func22, Try.ntmps22
    go_wp2
    all_goals go_ret
    all_goals refine ⟨ret_int ?_, rfl⟩
    all_goals rw [← HV.out]; unfold hexV
    all_goals first
      | (rw [if_pos (by omega)]; done)
      | (rw [if_neg (by omega), if_pos (by omega)]; omega)
      | (rw [if_neg (by omega), if_neg (by omega)]; done)
  exact H _ rfl

/-- What number answers. -/
def pairU (o : Option Nat) : Value := match o with | some n => .tuple #[.int .u64 n, .bool true] | none => .tuple #[.int .u64 0, .bool false]
/-- The number that digits of a base tell, up to a limit. -/
def numB (b lim : Nat) (l : List UInt8) : Option Nat := if l = [] then none else valLoop b lim 0 l

theorem drop_cons (s : ByteArray) (k : Nat) (h : k < s.size) : s.data.toList.drop k = s[k] :: s.data.toList.drop (k + 1) := by
  rw [List.drop_eq_getElem_cons (by simpa using h)]; rfl

theorem toList_eq (s : ByteArray) : s.toList = s.data.toList := Lib.toList_data s

theorem number8_any (s : ByteArray) (lim : Nat) (w : World) (hs : s.size ≤ maxLen) (hl : 100 ≤ lim) (hl2 : lim ≤ 9223372036854775808) :
    Calls Try.prog 20 #[.string s, .int .u64 8, .int .u64 lim] w fun e w' => e = .returned (pairU (numB 8 lim s.data.toList)) ∧ w = w' := by
  unfold maxLen at hs
  by_cases h0 : s.data.toList = []
  · have hn : numB 8 lim s.data.toList = none := by unfold numB; rw [if_pos h0]
    rw [hn]
    have hne : s.toList.isEmpty = true := by rw [toList_eq, h0]; rfl
    clear h0 hn
    go_enter Try.func20, Try.ntmps20
    go_wp2
    go_ret2
    exact ⟨rfl, rfl⟩
  · have hn : numB 8 lim s.data.toList = valLoop 8 lim 0 s.data.toList := by unfold numB; rw [if_neg h0]
    rw [hn]
    clear hn
    have hne : s.toList.isEmpty = false := by rw [toList_eq]; simpa using h0
    clear h0
    go_enter Try.func20, Try.ntmps20
    go_wp2
    go_loop [8, 15] (fun n i => ∃ k m : Nat, k ≤ s.size ∧ i = .int .i64 k ∧ n = .int .u64 m ∧ m ≤ lim ∧ Hid (valLoop 8 lim m (s.data.toList.drop k) = valLoop 8 lim 0 s.data.toList)) (fun _ i => s.size - (intOf i).toNat)
    case atStart => exact ⟨0, 0, Nat.zero_le _, rfl, rfl, Nat.zero_le _, rfl⟩
    case round =>
      obtain ⟨k, m, hk, rfl, rfl, hm, hv⟩ := hrel
      by_cases hlt : k < s.size
      · have hd := drop_cons s k hlt
        have HD := Lib.hid hd
        clear hd
        have b1 : (s[k].toNat : Int) ≤ 255 := by have := UInt8.toNat_lt s[k]; omega
        have b0 : 0 ≤ (s[k].toNat : Int) := by omega
        by_cases h48 : 48 ≤ (s[k].toNat : Int)
        · by_cases hdb : (s[k].toNat : Int) - 48 < 8
          · go_wp2
            · go_ret2
              refine ⟨?_, rfl⟩
              rw [← hv.out, HD.out]
              simp only [valLoop]
              rw [if_neg (by omega)]
              rfl
            · go_round
              case rel =>
                refine ⟨k + 1, m * 8 + (s[k].toNat - 48), by omega, by go_num, ?_, by omega, ?_⟩
                · congr 1; omega
                · have := hv.out
                  rw [HD.out] at this
                  simp only [valLoop] at this
                  rw [if_pos (by omega)] at this
                  exact this
              case measure => simp [intOf]; omega
          · go_wp2
            go_ret2
            refine ⟨?_, rfl⟩
            rw [← hv.out, HD.out]
            simp only [valLoop]
            rw [if_neg (by omega)]
            rfl
        · have hw : 100 ≤ IntKind.u64.wrap ((s[k].toNat : Int) - 48) := by rw [IntKind.wrap_u64]; omega
          go_wp2
          go_ret2
          refine ⟨?_, rfl⟩
          rw [← hv.out, HD.out]
          simp only [valLoop]
          rw [if_neg (by omega)]
          rfl
      · have hks : k = s.size := by omega
        have HV := Lib.hid (show valLoop 8 lim 0 s.data.toList = some m by rw [← hv.out, hks, List.drop_of_length_le (by simp)]; rfl)
        clear hks
        go_wp2
        go_ret2
        exact ⟨by rw [HV.out]; rfl, rfl⟩

theorem number10_any (s : ByteArray) (lim : Nat) (w : World) (hs : s.size ≤ maxLen) (hl : 100 ≤ lim) (hl2 : lim ≤ 9223372036854775808) :
    Calls Try.prog 20 #[.string s, .int .u64 10, .int .u64 lim] w fun e w' => e = .returned (pairU (numB 10 lim s.data.toList)) ∧ w = w' := by
  unfold maxLen at hs
  by_cases h0 : s.data.toList = []
  · have hn : numB 10 lim s.data.toList = none := by unfold numB; rw [if_pos h0]
    rw [hn]
    have hne : s.toList.isEmpty = true := by rw [toList_eq, h0]; rfl
    clear h0 hn
    go_enter Try.func20, Try.ntmps20
    go_wp2
    go_ret2
    exact ⟨rfl, rfl⟩
  · have hn : numB 10 lim s.data.toList = valLoop 10 lim 0 s.data.toList := by unfold numB; rw [if_neg h0]
    rw [hn]
    clear hn
    have hne : s.toList.isEmpty = false := by rw [toList_eq]; simpa using h0
    clear h0
    go_enter Try.func20, Try.ntmps20
    go_wp2
    go_loop [8, 15] (fun n i => ∃ k m : Nat, k ≤ s.size ∧ i = .int .i64 k ∧ n = .int .u64 m ∧ m ≤ lim ∧ Hid (valLoop 10 lim m (s.data.toList.drop k) = valLoop 10 lim 0 s.data.toList)) (fun _ i => s.size - (intOf i).toNat)
    case atStart => exact ⟨0, 0, Nat.zero_le _, rfl, rfl, Nat.zero_le _, rfl⟩
    case round =>
      obtain ⟨k, m, hk, rfl, rfl, hm, hv⟩ := hrel
      by_cases hlt : k < s.size
      · have hd := drop_cons s k hlt
        have HD := Lib.hid hd
        clear hd
        have b1 : (s[k].toNat : Int) ≤ 255 := by have := UInt8.toNat_lt s[k]; omega
        have b0 : 0 ≤ (s[k].toNat : Int) := by omega
        by_cases h48 : 48 ≤ (s[k].toNat : Int)
        · by_cases hdb : (s[k].toNat : Int) - 48 < 10
          · go_wp2
            · go_ret2
              refine ⟨?_, rfl⟩
              rw [← hv.out, HD.out]
              simp only [valLoop]
              rw [if_neg (by omega)]
              rfl
            · go_round
              case rel =>
                refine ⟨k + 1, m * 10 + (s[k].toNat - 48), by omega, by go_num, ?_, by omega, ?_⟩
                · congr 1; omega
                · have := hv.out
                  rw [HD.out] at this
                  simp only [valLoop] at this
                  rw [if_pos (by omega)] at this
                  exact this
              case measure => simp [intOf]; omega
          · go_wp2
            go_ret2
            refine ⟨?_, rfl⟩
            rw [← hv.out, HD.out]
            simp only [valLoop]
            rw [if_neg (by omega)]
            rfl
        · have hw : 100 ≤ IntKind.u64.wrap ((s[k].toNat : Int) - 48) := by rw [IntKind.wrap_u64]; omega
          go_wp2
          go_ret2
          refine ⟨?_, rfl⟩
          rw [← hv.out, HD.out]
          simp only [valLoop]
          rw [if_neg (by omega)]
          rfl
      · have hks : k = s.size := by omega
        have HV := Lib.hid (show valLoop 10 lim 0 s.data.toList = some m by rw [← hv.out, hks, List.drop_of_length_le (by simp)]; rfl)
        clear hks
        go_wp2
        go_ret2
        exact ⟨by rw [HV.out]; rfl, rfl⟩

end Go.Proofs.Ytgfpmjdkjflibaa

/- Contracts of Octal: the program's and the reference's. -/
import Derived.Test.YtgfpmjdkjflibaaDigE
namespace Go.Proofs.Ytgfpmjdkjflibaa
open Go.RowKit
set_option linter.unusedVariables false

/-- What an answer with a text and a bool tells. -/
def pairS (o : Option (List UInt8)) : Value := match o with | some l => .tuple #[.string ⟨l.toArray⟩, .bool true] | none => .tuple #[.string ⟨#[]⟩, .bool false]

theorem slice21 (b d : Nat) (hd : d ≤ 21) (w : World) : (Instr.sliceAt 40 (.pointer (some ⟨b, 0, none⟩)) none (some (.int .i64 (d : Int))) none).run Try.prog w = .ok (.slice (some ⟨b, 0, none⟩) d 21) w := by
  rw [run_sliceAt_array_h w 40 ⟨b, 0, none⟩ arr21 .i64 d (by omega) (by rw [arrLen21]; omega), size21]
  show Result.ok _ w = _
  unfold slicedAt
  rw [arrLen21, if_neg (by omega), Nat.zero_mul, add_zero_off]
  rfl

theorem zero21 (w : World) (d : Nat) : (w.alloc (.cells #[.int .u8 0, .int .u8 0, .int .u8 0, .int .u8 0, .int .u8 0, .int .u8 0, .int .u8 0, .int .u8 0, .int .u8 0, .int .u8 0, .int .u8 0, .int .u8 0, .int .u8 0, .int .u8 0, .int .u8 0, .int .u8 0, .int .u8 0, .int .u8 0, .int .u8 0, .int .u8 0, .int .u8 0] 40)).rowIs w.heap.size 40 21 (rowF d []) := by
  refine (World.rowIs_alloc w _ 40 (rowF d []) ?_)
  intro i hi
  have : i < 21 := by simpa using hi
  have e : rowF d [] i = .int .u8 0 := by
    unfold rowF
    split
    · rfl
    · simp
  rw [e]
  rcases i with _ | _ | _ | _ | _ | _ | _ | _ | _ | _ | _ | _ | _ | _ | _ | _ | _ | _ | _ | _ | _ | i
  all_goals first | rfl | omega

theorem row_put8 (N M : Nat) (acc : List UInt8) (r k b T : Nat) (w : World) (hrow : w.rowIs b T M (rowF N acc)) (hacc : acc.length = k) (hk : k < N) :
    (w.setCell ⟨b, N - 1 - k, none⟩ (.int .u8 (48 + (r : Int) % 8))).rowIs b T M (rowF N (dByte (r % 8) :: acc)) := by
  have hv : Value.int .u8 (48 + (r : Int) % 8) = .int .u8 ((dByte (r % 8)).toNat : Int) := by rw [dByte_toNat _ (by omega)]; congr 1
  rw [hv]
  exact (hrow.set (N - 1 - k) _).congr (fun j _ => by rw [← rowF_step N acc (dByte (r % 8)) j (by omega), hacc])

theorem div_pow8 (n k r : Nat) (h : r = n / 8 ^ k) : r / 8 = n / 8 ^ (k + 1) := by
  rw [h, Nat.div_div_eq_div_mul, ← Nat.pow_succ]

theorem octal_bad (n d : Int) (w : World) (h : ¬ (0 ≤ n ∧ 1 ≤ d ∧ d ≤ 21)) :
    Calls Try.prog 12 #[.int .i64 n, .int .i64 d] w fun e w' => e = .returned (.tuple #[.string ⟨#[]⟩, .bool false]) ∧ Below w.heap.size w w' := by
  have hcase : n < 0 ∨ (0 ≤ n ∧ d < 1) ∨ (0 ≤ n ∧ 1 ≤ d ∧ 21 < d) := by omega
  clear h
  rcases hcase with h | ⟨h, h'⟩ | ⟨h, h', h''⟩
  all_goals
    go_enter Try.func12, Try.ntmps12
    go_wp2
    go_ret2
    exact ⟨rfl, Below.refl _ _⟩

theorem octal_good (m d : Nat) (w : World) (hm : m ≤ 9223372036854775807) (hd1 : 1 ≤ d) (hd2 : d ≤ 21) :
    Calls Try.prog 12 #[.int .i64 m, .int .i64 d] w fun e w' => e = .returned (pairS (if m < 8 ^ d then some (octL d m) else none)) ∧ Below w.heap.size w w' := by
  obtain ⟨out, hout⟩ : ∃ out, out = pairS (if m < 8 ^ d then some (octL d m) else none) := ⟨_, rfl⟩
  rw [← hout]
  have HO := Lib.hid hout
  clear hout
  go_enter Try.func12, Try.ntmps12
  go_wp2
  go_loopw [0, 19] (fun rest cnt wr => ∃ (r k : Nat) (acc : List UInt8), rest = .int .i64 r ∧ cnt = .int .i64 k ∧ k ≤ d ∧ r ≤ m ∧ Hid (acc.length = k) ∧ Hid (r = m / 8 ^ k) ∧ Hid (octL (d - k) r ++ acc = octL d m) ∧ Hid (wr.rowIs w.heap.size 40 21 (rowF d acc)) ∧ Hid (Below w.heap.size w wr)) (fun _ cnt _ => d - (intOf cnt).toNat)
  case atStart => exact ⟨m, 0, [], rfl, rfl, by omega, by omega, rfl, by show m = m / 8 ^ 0; simp, List.append_nil _, zero21 w d, (Below.refl _ _).alloc (Nat.le_refl _) _⟩
  case round =>
    obtain ⟨r, k, acc, rfl, rfl, hk, hr, hacc, hdiv, hoct, hrow, hbel⟩ := hrel
    by_cases hlt : k < d
    · have hc : wr.cell? ⟨w.heap.size, d - 1 - k, none⟩ = some (.int .u8 0) := by
        rw [hrow.out.cell (by omega)]; unfold rowF; rw [if_pos (by have := hacc.out; omega)]
      have hf : wr.frozen? ⟨w.heap.size, d - 1 - k, none⟩ = false := hrow.out.frozen _
      have hrow2 := Lib.hid (row_put8 d 21 acc r k _ _ _ hrow.out hacc.out hlt)
      have hi1 : (0 : Int) ≤ (d : Int) - 1 - k := by omega
      have hi2 : (d : Int) - 1 - k < 21 := by omega
      have hi3 : ((d : Int) - 1 - k).toNat = d - 1 - k := by omega
      go_wp2
      go_roundw
      case rel =>
        refine ⟨r / 8, k + 1, dByte (r % 8) :: acc, by go_num, by go_num, by omega, by omega, by have := hacc.out; show List.length _ = _; simpa using this, div_pow8 _ _ _ hdiv.out, ?_, hrow2.out, hbel.out.setCell (Nat.le_refl _) _⟩
        show octL (d - (k + 1)) (r / 8) ++ (dByte (r % 8) :: acc) = octL d m
        rw [← hoct.out, show d - k = (d - (k + 1)) + 1 by omega]; simp [octL]
      case measure => simp [intOf]; omega
    · have hkd : k = d := by omega
      by_cases h0 : r = 0
      · have hmd : m < 8 ^ d := by
          have := hdiv.out
          rw [hkd, h0] at this
          exact (Nat.div_eq_zero_iff_lt (pow8_pos d)).1 this.symm
        have hal : acc = octL d m := by have := hoct.out; rw [hkd] at this; simpa [octL] using this
        have hsl := fun w0 => slice21 w.heap.size d hd2 w0
        have hcv := conv_rowF hrow.out (by omega) (by have := hacc.out; omega) 0 d 21 (by have := hacc.out; omega) (by have := hacc.out; omega)
        rw [hal] at hcv
        have HO2 : Hid (out = .tuple #[.string ⟨(octL d m).toArray⟩, .bool true]) := by show out = _; rw [HO.out, if_pos hmd]; rfl
        have h0' : (r : Int) ≤ 0 := by omega
        clear hmd hal hkd h0 HO
        go_wp2
        go_ret2
        exact ⟨by rw [HO2.out]; rfl, hbel.out⟩
      · have hmd : ¬ m < 8 ^ d := by
          intro h
          have := hdiv.out
          rw [hkd, (Nat.div_eq_zero_iff_lt (pow8_pos d)).2 h] at this
          exact h0 this
        have HO2 : Hid (out = .tuple #[.string ⟨#[]⟩, .bool false]) := by show out = _; rw [HO.out, if_neg hmd]; rfl
        have h0' : (0 : Int) < (r : Int) := by omega
        clear hmd hkd h0 HO
        go_wp2
        go_ret2
        exact ⟨by rw [HO2.out]; rfl, hbel.out⟩

theorem add_front (w : World) (d : UInt8) (y : List UInt8) (h : y.length + 1 ≤ 9223372036854775807) : (Op.stringOp .add ⟨#[d]⟩ ⟨y.toArray⟩).run Try.prog w = .ok (.string ⟨(d :: y).toArray⟩) w := by
  rw [run_string_add_sum w _ _ (by simp [ByteArray.size]; omega)]
  have := ByteArray.mk_append_mk [d] y
  rw [List.singleton_append] at this
  rw [← this]

theorem refOctal_bad (n d : Int) (w : World) (h : ¬ (0 ≤ n ∧ 1 ≤ d ∧ d ≤ 21)) :
    Calls Try.prog 13 #[.int .i64 n, .int .i64 d] w fun e w' => e = .returned (.tuple #[.string ⟨#[]⟩, .bool false]) ∧ Below w.heap.size w w' := by
  have hcase : n < 0 ∨ (0 ≤ n ∧ d < 1) ∨ (0 ≤ n ∧ 1 ≤ d ∧ 21 < d) := by omega
  clear h
  rcases hcase with h | ⟨h, h'⟩ | ⟨h, h', h''⟩
  all_goals
    go_enter Try.func13, Try.ntmps13
    go_wp2
    go_ret2
    exact ⟨rfl, Below.refl _ _⟩

theorem refOctal_good (m d : Nat) (w : World) (hm : m ≤ 9223372036854775807) (hd1 : 1 ≤ d) (hd2 : d ≤ 21) :
    Calls Try.prog 13 #[.int .i64 m, .int .i64 d] w fun e w' => e = .returned (pairS (if m < 8 ^ d then some (octL d m) else none)) ∧ Below w.heap.size w w' := by
  obtain ⟨out, hout⟩ : ∃ out, out = pairS (if m < 8 ^ d then some (octL d m) else none) := ⟨_, rfl⟩
  rw [← hout]
  have HO := Lib.hid hout
  clear hout
  go_enter Try.func13, Try.ntmps13
  go_wp2
  go_loopw [0, 6, 7] (fun rest txt cnt wr => ∃ (r k : Nat) (acc : List UInt8), rest = .int .i64 r ∧ txt = .string ⟨acc.toArray⟩ ∧ cnt = .int .i64 k ∧ k ≤ d ∧ r ≤ m ∧ Hid (acc.length = k) ∧ Hid (r = m / 8 ^ k) ∧ Hid (octL (d - k) r ++ acc = octL d m) ∧ Hid (Below w.heap.size w wr)) (fun _ _ cnt _ => d - (intOf cnt).toNat)
  case atStart => exact ⟨m, 0, [], rfl, rfl, rfl, by omega, by omega, rfl, by show m = m / 8 ^ 0; simp, List.append_nil _, Below.refl _ _⟩
  case round =>
    obtain ⟨r, k, acc, rfl, rfl, rfl, hk, hr, hacc, hdiv, hoct, hbel⟩ := hrel
    by_cases hlt : k < d
    · have hd : 48 + (r : Int) % 8 = ((dByte (r % 8)).toNat : Int) := by rw [dByte_toNat _ (by omega)]; omega
      have hcv := conv_one (w := wr.alloc (.cells #[.int .u8 (48 + (r : Int) % 8)] 5)) (b := wr.heap.size) hd (by rw [World.cell?_alloc_new]; rfl)
      have hadd := fun w0 : World => add_front w0 (dByte (r % 8)) acc (by have := hacc.out; omega)
      clear hd
      go_wp2
      go_roundw
      case rel =>
        refine ⟨r / 8, k + 1, dByte (r % 8) :: acc, by go_num, rfl, by go_num, by omega, by omega, by have := hacc.out; show List.length _ = _; simpa using this, div_pow8 _ _ _ hdiv.out, ?_, hbel.out.alloc hbel.out.size _⟩
        show octL (d - (k + 1)) (r / 8) ++ (dByte (r % 8) :: acc) = octL d m
        rw [← hoct.out, show d - k = (d - (k + 1)) + 1 by omega]; simp [octL]
      case measure => simp [intOf]; omega
    · have hkd : k = d := by omega
      by_cases h0 : r = 0
      · have hmd : m < 8 ^ d := by
          have := hdiv.out
          rw [hkd, h0] at this
          exact (Nat.div_eq_zero_iff_lt (pow8_pos d)).1 this.symm
        have hal : acc = octL d m := by have := hoct.out; rw [hkd] at this; simpa [octL] using this
        have HO2 : Hid (out = .tuple #[.string ⟨acc.toArray⟩, .bool true]) := by show out = _; rw [HO.out, if_pos hmd, hal]; rfl
        have h0' : (r : Int) ≤ 0 := by omega
        clear hmd hal hkd h0 HO
        go_wp2
        go_ret2
        exact ⟨by rw [HO2.out]; rfl, hbel.out⟩
      · have hmd : ¬ m < 8 ^ d := by
          intro h
          have := hdiv.out
          rw [hkd, (Nat.div_eq_zero_iff_lt (pow8_pos d)).2 h] at this
          exact h0 this
        have HO2 : Hid (out = .tuple #[.string ⟨#[]⟩, .bool false]) := by show out = _; rw [HO.out, if_neg hmd]; rfl
        have h0' : (0 : Int) < (r : Int) := by omega
        clear hmd hkd h0 HO
        go_wp2
        go_ret2
        exact ⟨by rw [HO2.out]; rfl, hbel.out⟩

theorem octal_any (n d : Int) (w : World) (hn0 : -9223372036854775808 ≤ n) (hn1 : n ≤ 9223372036854775807) :
    Calls Try.prog 12 #[.int .i64 n, .int .i64 d] w fun e w' => e = .returned (pairS (octS n d)) ∧ Below w.heap.size w w' := by
  unfold octS
  by_cases h : 0 ≤ n ∧ 1 ≤ d ∧ d ≤ 21
  · obtain ⟨m, rfl⟩ : ∃ m : Nat, n = (m : Int) := ⟨n.toNat, by omega⟩
    obtain ⟨k, rfl⟩ : ∃ k : Nat, d = (k : Int) := ⟨d.toNat, by omega⟩
    have := octal_good m k w (by omega) (by omega) (by omega)
    simp only [Int.toNat_natCast]
    by_cases hm : m < 8 ^ k
    · rw [if_pos hm] at this
      rw [if_pos ⟨h.1, h.2.1, h.2.2, hm⟩]; exact this
    · rw [if_neg hm] at this
      rw [if_neg (fun q => hm q.2.2.2)]; exact this
  · rw [if_neg (fun q => h ⟨q.1, q.2.1, q.2.2.1⟩)]
    exact octal_bad n d w h

theorem refOctal_any (n d : Int) (w : World) (hn0 : -9223372036854775808 ≤ n) (hn1 : n ≤ 9223372036854775807) :
    Calls Try.prog 13 #[.int .i64 n, .int .i64 d] w fun e w' => e = .returned (pairS (octS n d)) ∧ Below w.heap.size w w' := by
  unfold octS
  by_cases h : 0 ≤ n ∧ 1 ≤ d ∧ d ≤ 21
  · obtain ⟨m, rfl⟩ : ∃ m : Nat, n = (m : Int) := ⟨n.toNat, by omega⟩
    obtain ⟨k, rfl⟩ : ∃ k : Nat, d = (k : Int) := ⟨d.toNat, by omega⟩
    have := refOctal_good m k w (by omega) (by omega) (by omega)
    simp only [Int.toNat_natCast]
    by_cases hm : m < 8 ^ k
    · rw [if_pos hm] at this
      rw [if_pos ⟨h.1, h.2.1, h.2.2, hm⟩]; exact this
    · rw [if_neg hm] at this
      rw [if_neg (fun q => hm q.2.2.2)]; exact this
  · rw [if_neg (fun q => h ⟨q.1, q.2.1, q.2.2.1⟩)]
    exact refOctal_bad n d w h
end Go.Proofs.Ytgfpmjdkjflibaa

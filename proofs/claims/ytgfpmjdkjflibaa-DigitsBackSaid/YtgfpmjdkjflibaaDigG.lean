/- Contracts of Unhex: the program's and the reference's. -/
import Derived.Test.YtgfpmjdkjflibaaDigF
import Derived.BigQuiet
import Derived.Deep.QuietTactic
import Derived.Lib.HexFns2
namespace Go.Proofs.Ytgfpmjdkjflibaa
open Go.RowKit
set_option linter.unusedVariables false

/-- The cells of a slice of n bytes, the first of which are these; the others are 0. -/
def rowH (acc : List UInt8) (j : Nat) : Value := .int .u8 ((acc[j]?.getD 0).toNat : Int)
theorem rowH_step (acc : List UInt8) (d : UInt8) (j : Nat) : (if j = acc.length then Value.int .u8 (d.toNat : Int) else rowH acc j) = rowH (acc ++ [d]) j := by
  unfold rowH
  by_cases h : j = acc.length
  · rw [if_pos h, h]; simp
  · rw [if_neg h]
    by_cases h2 : j < acc.length
    · rw [List.getElem?_append_left h2]
    · rw [List.getElem?_eq_none (by omega), List.getElem?_eq_none (by simp; omega)]

theorem hexV_some (c h : Nat) (hc : hVal c = some h) : hexV (c : Int) = (h : Int) ∧ h ≤ 15 := by
  unfold hVal at hc
  unfold hexV
  split at hc
  · cases hc; rw [if_pos (by omega)]; omega
  · split at hc
    · cases hc; rw [if_neg (by omega), if_pos (by omega)]; omega
    · cases hc
theorem hexV_none (c : Nat) (hc : hVal c = none) : hexV (c : Int) = 16 := by
  unfold hVal at hc
  unfold hexV
  split at hc
  · cases hc
  · split at hc
    · cases hc
    · rw [if_neg (by omega), if_neg (by omega)]

theorem conv_rowH {w : World} {b T M : Nat} {l : List UInt8} (hrow : w.rowIs b T M (rowH l)) (hl : l.length ≤ M) (n cap : Nat) (hn : n = l.length) :
    (convert 39 9 (.slice (some ⟨b, 0, none⟩) n cap)).run Try.prog w = .ok (.string ⟨l.toArray⟩) w := by
  subst hn
  have := run_convert_bytes_arg (P := Try.prog) w 39 5 Try.underlying39 Try.underlying5 b 0 l.length cap (l.map fun b => (b.toNat : Int)) (by simp)
    (fun i hi => by
      rw [Nat.zero_add, hrow.cell (by omega)]
      unfold rowH
      simp [List.getElem?_eq_getElem hi]) 9 Try.underlying9
  rw [Lib.Lz.strOfNums_map] at this
  exact this

theorem info8 : (Try.prog.info? 5).map (fun i => (i.zero, i.size, i.bytes)) = some (some (Value.int IntKind.u8 0), 1, 1) := by kernel_rfl

theorem make_bytes (n : Nat) (hn : n ≤ 281474976710656) (i : Int) (hi : i = (n : Int)) (w : World) :
    (Instr.makeSlice 39 (.int .i64 i) (.int .i64 i)).run Try.prog w = .ok (.slice (some ⟨w.heap.size, 0, none⟩) n n) (w.alloc (.cells (madeCells #[.int .u8 0] n) 5)) := by
  subst hi
  exact run_make_row' (P := Try.prog) 39 5 (.int .u8 0) 1 Try.underlying39 info8 rfl .i64 .i64 n (by omega) (by omega) w

theorem row_made (w : World) (n : Nat) : (w.alloc (.cells (madeCells #[.int .u8 0] n) 5)).rowIs w.heap.size 5 n (rowH []) :=
  (World.rowIs_made w (.int .u8 0) n 5).congr (fun i _ => by unfold rowH; simp)

theorem hexValue_q (c : Int) (w : World) (h0 : 0 ≤ c) (h1 : c ≤ 255) :
    Calls Try.prog 22 #[.int .u8 c] w fun e w' => e = .returned (.int .u8 (hexV c)) ∧ w' = w :=
  (hexValue_any c w h0 h1).mono fun _ _ ⟨a, b⟩ => ⟨a, b.symm⟩

theorem put_byte (h l : Nat) (hh : h ≤ 15) (hl : l ≤ 15) : bits BinOp.or IntKind.u8 ((h : Int) * 16) (l : Int) = ((UInt8.ofNat (16 * h + l)).toNat : Int) := by
  rw [Lib.Hx.or_digits h l (by omega) (by omega), Nat.mul_comm h 16]

theorem drop_cons2 (s : ByteArray) (k : Nat) (h : 2 * k + 1 < s.size) : s.data.toList.drop (2 * k) = s[2 * k] :: s[2 * k + 1] :: s.data.toList.drop (2 * (k + 1)) := by
  rw [drop_cons s (2 * k) (by omega), drop_cons s (2 * k + 1) h]
  rfl

theorem unhex_any (s : ByteArray) (w : World) (hs : s.size ≤ 140737488351232) :
    Calls Try.prog 16 #[.string s] w fun e w' => e = .returned (pairS (unhexG [] s.data.toList)) ∧ Below w.heap.size w w' := by
  have hl : s.data.toList.length = s.size := by simp
  by_cases hodd : s.size % 2 = 1
  · rw [unhexG_odd _ _ (by omega)]
    have h1 : ((s.size : Int) % 2 == 0) = false := by simp; omega
    have h2 : ((s.size : Int) % 2 != 0) = true := by simp; omega
    clear hl
    go_enter Try.func16, Try.ntmps16
    go_wp2_with fail
    go_ret2
    exact ⟨rfl, Below.refl _ _⟩
  · obtain ⟨n, hn⟩ : ∃ n, s.size = 2 * n := ⟨s.size / 2, by omega⟩
    have h1 : ((s.size : Int) % 2 == 0) = true := by simp; omega
    have h2 : ((s.size : Int) % 2 != 0) = false := by simp; omega
    have hmk := fun w0 : World => make_bytes n (by omega) ((s.size : Int) / 2) (by omega) w0
    have HL := Lib.hid hl
    have HN := Lib.hid hn
    have hn1 : s.size ≤ 2 * n := by omega
    have hn2 : 2 * n ≤ s.size := by omega
    clear hl hn hodd
    go_enter Try.func16, Try.ntmps16
    go_wp2_with fail
    go_loopw [18] (fun i wr => ∃ (k : Nat) (acc : List UInt8), i = .int .i64 k ∧ k ≤ n ∧ Hid (acc.length = k) ∧ Hid (unhexG acc (s.data.toList.drop (2 * k)) = unhexG [] s.data.toList) ∧ Hid (wr.rowIs w.heap.size 5 n (rowH acc)) ∧ Hid (Below w.heap.size w wr)) (fun i _ => n - (intOf i).toNat)
    case atStart => exact ⟨0, [], rfl, Nat.zero_le _, rfl, rfl, row_made w n, (Below.refl _ _).alloc (Nat.le_refl _) _⟩
    case round =>
      obtain ⟨k, acc, rfl, hk, hacc, hun, hrow, hbel⟩ := hrel
      by_cases hlt : k < n
      · have HD := Lib.hid (drop_cons2 s k (by omega))
        have x1 : (s[2 * k].toNat : Int) ≤ 255 := by have := UInt8.toNat_lt s[2 * k]; omega
        have x0 : 0 ≤ (s[2 * k].toNat : Int) := by omega
        have y1 : (s[2 * k + 1].toNat : Int) ≤ 255 := by have := UInt8.toNat_lt s[2 * k + 1]; omega
        have y0 : 0 ≤ (s[2 * k + 1].toNat : Int) := by omega
        have e1 : IntKind.i64.wrap (2 * (k : Int)) = 2 * (k : Int) := IntWalk.i64_in _ (by omega)
        have e2 : IntKind.i64.wrap (2 * (k : Int) + 1) = 2 * (k : Int) + 1 := IntWalk.i64_in _ (by omega)
        have e3 : (0 : Int) ≤ 2 * (k : Int) := by omega
        have e4 : (0 : Int) ≤ 2 * (k : Int) + 1 := by omega
        have e5 : (2 * (k : Int)).toNat = 2 * k := by omega
        have e6 : (2 * (k : Int) + 1).toNat = 2 * k + 1 := by omega
        have e7 : 2 * (k : Int) < s.size := by omega
        have e8 : 2 * (k : Int) + 1 < s.size := by omega
        cases hx : hVal s[2 * k].toNat with
        | none =>
          have HNO : Hid (unhexG [] s.data.toList = none) := by
            show unhexG [] s.data.toList = none
            rw [← hun.out, HD.out]; simp only [unhexG]; rw [hx]
          have hv := hexV_none _ hx
          clear hx HD hun
          go_wp2_with fail
          go_quiet ((go_at_call 22; exact Calls.quiet_of_same (hexValue_q _ _ (by omega) (by omega))))
          go_wp2_with fail
          go_ret2
          exact ⟨by rw [HNO.out]; rfl, below_drewN hbel.out _⟩
        | some h =>
          obtain ⟨hv, hh⟩ := hexV_some _ _ hx
          cases hy : hVal s[2 * k + 1].toNat with
          | none =>
            have HNO : Hid (unhexG [] s.data.toList = none) := by
              show unhexG [] s.data.toList = none
              rw [← hun.out, HD.out]; simp only [unhexG]; rw [hx, hy]
            have hv2 := hexV_none _ hy
            have hh' : (h : Int) ≤ 15 := by omega
            clear hx hy HD hun
            go_wp2_with fail
            go_quiet ((go_at_call 22; exact Calls.quiet_of_same (hexValue_q _ _ (by omega) (by omega))))
            go_wp2_with fail
            go_ret2
            exact ⟨by rw [HNO.out]; rfl, below_drewN hbel.out _⟩
          | some l =>
            obtain ⟨hv2, hh2⟩ := hexV_some _ _ hy
            have HST : Hid (unhexG (acc ++ [UInt8.ofNat (16 * h + l)]) (s.data.toList.drop (2 * (k + 1))) = unhexG [] s.data.toList) := by
              show unhexG _ _ = _
              rw [← hun.out, HD.out]; simp only [unhexG]; rw [hx, hy]
            have hh' : (h : Int) ≤ 15 := by omega
            have hh2' : (l : Int) ≤ 15 := by omega
            have hc : wr.cell? ⟨w.heap.size, k, none⟩ = some (rowH acc k) := hrow.out.cell hlt
            have hf : wr.frozen? ⟨w.heap.size, k, none⟩ = false := hrow.out.frozen _
            clear hx hy HD hun
            go_wp2_with fail
            go_quiet ((go_at_call 22; exact Calls.quiet_of_same (hexValue_q _ _ (by omega) (by omega))))
            go_wp2_with fail
            go_roundw
            case rel =>
              refine ⟨k + 1, acc ++ [UInt8.ofNat (16 * h + l)], by go_num, by omega, by have := hacc.out; show List.length _ = _; simpa using this, HST.out, ?_, (below_drewN hbel.out _).setCell (Nat.le_refl _) _⟩
              rw [put_byte h l hh hh2]
              refine World.rowIs.congr (World.rowIs.set (w := wr.drewN _) (hrow.out.of_block rfl) k _) (fun j _ => ?_)
              rw [← rowH_step, hacc.out]
            case measure => simp [intOf]; omega
      · have hkn : k = n := by omega
        have hend : unhexG [] s.data.toList = some acc := by
          rw [← hun.out, hkn, List.drop_of_length_le (by have := HL.out; omega)]; rfl
        have HE := Lib.hid hend
        have hcv := conv_rowH hrow.out (by have := hacc.out; omega) n n (by have := hacc.out; omega)
        clear hend hun hkn
        go_wp2_with fail
        go_ret2
        exact ⟨by rw [HE.out]; rfl, hbel.out⟩
end Go.Proofs.Ytgfpmjdkjflibaa

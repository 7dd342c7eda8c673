/- Contracts of the reference's Hex and Unhex, which append byte by byte. -/
import Derived.Test.YtgfpmjdkjflibaaDigG
import Derived.Laws.AppendOwn
import Derived.Laws.OwnMore
import Derived.Lib.OthersKept
namespace Go.Proofs.Ytgfpmjdkjflibaa
open Go.RowKit
set_option linter.unusedVariables false

def cellsOf (l : List UInt8) : List Value := l.map fun b => Value.int .u8 (b.toNat : Int)
theorem cellsOf_snoc (l : List UInt8) (d : UInt8) : cellsOf (l ++ [d]) = cellsOf l ++ [.int .u8 (d.toNat : Int)] := by simp [cellsOf]

/-- The bytes that a slice of the call's own holds, as a string. -/
theorem conv_own {w : World} {B : Nat} {v : Value} {l : List UInt8} (h : w.ownsRow B 5 1 v l.length (cellsOf l)) :
    (convert 39 9 v).run Try.prog w = .ok (.string ⟨l.toArray⟩) w := by
  have hcells := fun g (hg : v.ownBlock = some g) => h.cells hg
  obtain ⟨h1, h2⟩ := h
  rcases h2 with ⟨rfl, hx⟩ | ⟨g, cap, cur, rfl, hg, hh, r⟩
  · have hl : l = [] := by cases l; rfl; simp at hx
    subst hl
    exact run_convert_bytes_nil w 39 5 Try.underlying39 Try.underlying5 0 0 9 Try.underlying9
  · have := run_convert_bytes_arg (P := Try.prog) w 39 5 Try.underlying39 Try.underlying5 g 0 l.length cap (l.map fun b => (b.toNat : Int)) (by simp)
      (fun i hi => by
        have hc := hcells g rfl i (.int .u8 (l[i].toNat : Int)) (by simp [cellsOf, List.getElem?_eq_getElem hi])
        rw [add_zero_off] at hc
        rw [Nat.zero_add, hc]
        simp [List.getElem?_eq_getElem hi]) 9 Try.underlying9
    rw [Lib.Lz.strOfNums_map] at this
    exact this

/-- What an append of one byte leaves. -/
theorem own_snoc {w wr w1 : World} {B : Nat} {v v' : Value} {l : List UInt8} {d : UInt8} {x : Int} {o : Obj} (hx : x = (d.toNat : Int)) (hB : B ≤ wr.heap.size) (hbel : Below B w wr)
    (hown : wr.ownsRow B 5 1 v l.length (cellsOf l)) (hown' : w1.ownsRow B 5 1 v' (l.length + 1) (cellsOf l ++ [.int .u8 x])) (hgrow : (wr.alloc o).grownBy w1 v.ownBlock) :
    w1.ownsRow B 5 1 v' (l ++ [d]).length (cellsOf (l ++ [d])) ∧ Below B w w1 ∧ B ≤ w1.heap.size := by
  subst hx
  have hb := (hbel.alloc hB o).grown hgrow (by simp; omega) (fun k hk => (hown.lt k hk).1)
  refine ⟨by rw [cellsOf_snoc]; simpa using hown', hb, ?_⟩
  have := hgrow.size
  simp at this; omega

theorem one_new (w : World) (x : Value) : ∀ j u, [x][j]? = some u → (w.alloc (.cells #[x] 5)).cell? ((⟨w.heap.size, 0, none⟩ : Addr).add j) = some u := by
  intro j u h
  match j, h with
  | 0, h =>
    simp at h; subst h
    rw [add_zero_off, World.cell?_alloc_new]; rfl
  | j + 1, h => simp at h

theorem hexD_byte (n : Nat) (h : n < 16) : hexD (n : Int) = ((hByte n).toNat : Int) := by
  rw [hByte_toNat n h]; unfold hexD
  split
  · rw [if_pos (by omega)]; omega
  · rw [if_neg (by omega)]; omega

theorem take_snoc (s : ByteArray) (k : Nat) (h : k < s.size) : s.data.toList.take (k + 1) = s.data.toList.take k ++ [s[k]] := by
  rw [List.take_succ_eq_append_getElem (by simpa using h)]; rfl

theorem refHex_any (s : ByteArray) (w : World) (hs : s.size ≤ 1099511627776) :
    Calls Try.prog 19 #[.string s] w fun e w' => e = .returned (.string ⟨(hexL s.data.toList).toArray⟩) ∧ Below w.heap.size w w' := by
  obtain ⟨i0, hi, hz0, hz1, hz2⟩ := info_parts info8
  go_enter Try.func19, Try.ntmps19
  go_wp2_with fail
  go_loopw [3, 4] (fun v i wr => ∃ (k : Nat) (acc : List UInt8), i = .int .i64 k ∧ k ≤ s.size ∧ Hid (acc = hexL (s.data.toList.take k)) ∧ wr.ownsRow w.heap.size 5 1 v acc.length (cellsOf acc) ∧ Hid (Below w.heap.size w wr) ∧ w.heap.size ≤ wr.heap.size) (fun _ i _ => s.size - (intOf i).toNat)
  case atStart => exact ⟨0, [], rfl, Nat.zero_le _, rfl, World.ownsRow_nil _ _ _ _, Below.refl _ _, Nat.le_refl _⟩
  case round =>
    obtain ⟨k, acc, rfl, hk, hacc, hown, hbel, hsize⟩ := hrel
    by_cases hlt : k < s.size
    · have b1 : (s[k].toNat : Int) ≤ 255 := by have := UInt8.toNat_lt s[k]; omega
      have b0 : 0 ≤ (s[k].toNat : Int) := by omega
      have x1 : hexD ((s[k].toNat : Int) / 16) = ((hByte (s[k].toNat / 16)).toNat : Int) := by
        have := hexD_byte (s[k].toNat / 16) (by omega)
        rwa [show (((s[k].toNat / 16 : Nat)) : Int) = (s[k].toNat : Int) / 16 by omega] at this
      have x2 : hexD ((s[k].toNat : Int) % 16) = ((hByte (s[k].toNat % 16)).toNat : Int) := by
        have := hexD_byte (s[k].toNat % 16) (by omega)
        rwa [show (((s[k].toNat % 16 : Nat)) : Int) = (s[k].toNat : Int) % 16 by omega] at this
      have X1 := Lib.hid x1
      have X2 := Lib.hid x2
      have HT := Lib.hid (take_snoc s k hlt)
      have hal : acc.length ≤ 2 * k := by rw [hacc.out, hexL_length]; simp; omega
      clear x1 x2
      go_wp2_with (first
        | (go_at_call 24; refine (digit_any _ _ (by omega) (by omega)).mono ?_; rintro e w' ⟨rfl, rfl⟩)
        | (at_builtin; refine wpList_append_own _ rfl (.tmp 11) (.tmp 18) 39 rfl w.heap.size 5 i0 (.int .u8 0) 1 1 Try.underlying39 hi hz0 hz1 hz2 rfl (by decide) u3 acc.length (cellsOf acc) rfl (hown.alloc _) ⟨wr.heap.size, 0, none⟩ 1 1 [.int .u8 (hexD ((s[k].toNat : Int) / 16))] rfl rfl ?c1 ?c2 ?c3 ?c4 ?c5 ?_))
      case c1 => exact one_new _ _
      case c2 => intro u hu; simp at hu; subst hu; rfl
      case c3 => unfold maxLen; omega
      case c4 => omega
      case c5 => simp; omega
      intro v1 w1 hown1 hgrow1 _
      obtain ⟨own1, bel1, siz1⟩ := own_snoc X1.out hsize hbel.out hown hown1 hgrow1
      have B1 := Lib.hid bel1
      have hl1 : (acc ++ [hByte (s[k].toNat / 16)]).length ≤ 2 * k + 1 := by simp; omega
      generalize hacc1 : acc ++ [hByte (s[k].toNat / 16)] = acc1 at own1 hl1
      have HA1 := Lib.hid hacc1
      clear hown1 hgrow1 hown hbel bel1 X1 hacc1
      go_wp2_with (first
        | (go_at_call 24; refine (digit_any _ _ (by omega) (by omega)).mono ?_; rintro e w' ⟨rfl, rfl⟩)
        | (at_builtin; refine wpList_append_own _ rfl (.tmp 20) (.tmp 27) 39 rfl w.heap.size 5 i0 (.int .u8 0) 1 1 Try.underlying39 hi hz0 hz1 hz2 rfl (by decide) v1 acc1.length (cellsOf acc1) rfl (own1.alloc _) ⟨w1.heap.size, 0, none⟩ 1 1 [.int .u8 (hexD ((s[k].toNat : Int) % 16))] rfl rfl ?c1 ?c2 ?c3 ?c4 ?c5 ?_))
      case c1 => exact one_new _ _
      case c2 => intro u hu; simp at hu; subst hu; rfl
      case c3 => unfold maxLen; omega
      case c4 => omega
      case c5 => simp; omega
      intro v2 w2 hown2 hgrow2 _
      obtain ⟨own2, bel2, siz2⟩ := own_snoc X2.out siz1 B1.out own1 hown2 hgrow2
      have B2 := Lib.hid bel2
      clear hown2 hgrow2 own1 bel2 X2 B1
      go_wp2_with fail
      go_roundw
      case rel =>
        refine ⟨k + 1, acc1 ++ [hByte (s[k].toNat % 16)], by go_num, by omega, ?_, own2, B2.out, siz2⟩
        show acc1 ++ [hByte (s[k].toNat % 16)] = hexL (s.data.toList.take (k + 1))
        rw [HT.out, hexL_append, ← hacc.out, ← HA1.out]; simp [hexL]
      case measure => simp [intOf]; omega
    · have hks : k = s.size := by omega
      have hend : acc = hexL s.data.toList := by rw [hacc.out, hks, List.take_of_length_le (by simp)]
      have hcv := conv_own hown
      rw [hend] at hcv
      clear hend hks hacc
      go_wp2_with fail
      go_ret
      exact ⟨rfl, hbel.out⟩

theorem hexW_some (c h : Nat) (hc : hVal c = some h) : hexW (c : Int) = (h : Int) ∧ h ≤ 15 := by
  unfold hVal at hc
  unfold hexW
  split at hc
  · cases hc; rw [if_pos (by omega)]; omega
  · split at hc
    · cases hc; rw [if_neg (by omega), if_pos (by omega)]; omega
    · cases hc
theorem hexW_none (c : Nat) (hc : hVal c = none) : hexW (c : Int) = -1 := by
  unfold hVal at hc
  unfold hexW
  split at hc
  · cases hc
  · split at hc
    · cases hc
    · rw [if_neg (by omega), if_neg (by omega)]
theorem value_q (c : Int) (w : World) (h0 : 0 ≤ c) (h1 : c ≤ 255) :
    Calls Try.prog 23 #[.int .u8 c] w fun e w' => e = .returned (.int .i64 (hexW c)) ∧ w' = w :=
  (value_any c w h0 h1).mono fun _ _ ⟨a, b⟩ => ⟨a, b.symm⟩

theorem ownsRow_drewN {w : World} {B T : Nat} {v : Value} {n : Nat} {xs : List Value} (h : w.ownsRow B T 1 v n xs) (q : Nat) : (w.drewN q).ownsRow B T 1 v n xs := h

set_option maxHeartbeats 400000 in
theorem refUnhex_any (s : ByteArray) (w : World) (hs : s.size ≤ 1099511627776) :
    Calls Try.prog 17 #[.string s] w fun e w' => e = .returned (pairS (unhexG [] s.data.toList)) ∧ Below w.heap.size w w' := by
  have hl : s.data.toList.length = s.size := by simp
  by_cases hodd : s.size % 2 = 1
  · rw [unhexG_odd _ _ (by omega)]
    have h1 : ((s.size : Int) % 2 == 1) = true := by simp; omega
    clear hl
    go_enter Try.func17, Try.ntmps17
    go_wp2_with fail
    go_ret2
    exact ⟨rfl, Below.refl _ _⟩
  · obtain ⟨n, hn⟩ : ∃ n, s.size = 2 * n := ⟨s.size / 2, by omega⟩
    have h1 : ((s.size : Int) % 2 == 1) = false := by simp; omega
    have HL := Lib.hid hl
    have HN := Lib.hid hn
    have hn1 : s.size ≤ 2 * n := by omega
    have hn2 : 2 * n ≤ s.size := by omega
    obtain ⟨i0, hi, hz0, hz1, hz2⟩ := info_parts info8
    clear hl hn hodd
    go_enter Try.func17, Try.ntmps17
    go_wp2_with fail
    go_loopw [4, 5] (fun v i wr => ∃ (k : Nat) (acc : List UInt8), i = .int .i64 ((2 * k : Nat) : Int) ∧ k ≤ n ∧ acc.length ≤ k ∧ Hid (unhexG acc (s.data.toList.drop (2 * k)) = unhexG [] s.data.toList) ∧ wr.ownsRow w.heap.size 5 1 v acc.length (cellsOf acc) ∧ Hid (Below w.heap.size w wr) ∧ w.heap.size ≤ wr.heap.size) (fun _ i _ => s.size - (intOf i).toNat)
    case atStart => exact ⟨0, [], rfl, Nat.zero_le _, Nat.zero_le _, rfl, World.ownsRow_nil _ _ _ _, Below.refl _ _, Nat.le_refl _⟩
    case round =>
      obtain ⟨k, acc, rfl, hk, hal, hun, hown, hbel, hsize⟩ := hrel
      by_cases hlt : k < n
      · have HD := Lib.hid (drop_cons2 s k (by omega))
        have x1 : (s[2 * k].toNat : Int) ≤ 255 := by have := UInt8.toNat_lt s[2 * k]; omega
        have x0 : 0 ≤ (s[2 * k].toNat : Int) := by omega
        have y1 : (s[2 * k + 1].toNat : Int) ≤ 255 := by have := UInt8.toNat_lt s[2 * k + 1]; omega
        have y0 : 0 ≤ (s[2 * k + 1].toNat : Int) := by omega
        have e0 : ((2 * k : Nat) : Int) = 2 * (k : Int) := by omega
        have e1 : IntKind.i64.wrap (2 * (k : Int)) = 2 * (k : Int) := IntWalk.i64_in _ (by omega)
        have e2 : IntKind.i64.wrap (2 * (k : Int) + 1) = 2 * (k : Int) + 1 := IntWalk.i64_in _ (by omega)
        have e3 : (0 : Int) ≤ 2 * (k : Int) := by omega
        have e4 : (0 : Int) ≤ 2 * (k : Int) + 1 := by omega
        have e5 : (2 * (k : Int)).toNat = 2 * k := by omega
        have e6 : (2 * (k : Int) + 1).toNat = 2 * k + 1 := by omega
        have e7 : 2 * (k : Int) < s.size := by omega
        have e8 : 2 * (k : Int) + 1 < s.size := by omega
        cases hx : hVal s[2 * k].toNat with
        | none =>
          have HNO : Hid (unhexG [] s.data.toList = none) := by
            show unhexG [] s.data.toList = none
            rw [← hun.out, HD.out]; simp only [unhexG]; rw [hx]
          have hv := hexW_none _ hx
          clear hx HD hun
          go_wp2_with fail
          go_quiet ((go_at_call 23; exact Calls.quiet_of_same (value_q _ _ (by omega) (by omega))))
          go_wp2_with fail
          go_ret2
          exact ⟨by rw [HNO.out]; rfl, below_drewN hbel.out _⟩
        | some h =>
          obtain ⟨hv, hh⟩ := hexW_some _ _ hx
          cases hy : hVal s[2 * k + 1].toNat with
          | none =>
            have HNO : Hid (unhexG [] s.data.toList = none) := by
              show unhexG [] s.data.toList = none
              rw [← hun.out, HD.out]; simp only [unhexG]; rw [hx, hy]
            have hv2 := hexW_none _ hy
            have hh' : (0 : Int) ≤ (h : Int) := by omega
            clear hx hy HD hun
            go_wp2_with fail
            go_quiet ((go_at_call 23; exact Calls.quiet_of_same (value_q _ _ (by omega) (by omega))))
            go_wp2_with fail
            go_ret2
            exact ⟨by rw [HNO.out]; rfl, below_drewN hbel.out _⟩
          | some l =>
            obtain ⟨hv2, hh2⟩ := hexW_some _ _ hy
            have HST : Hid (unhexG (acc ++ [UInt8.ofNat (16 * h + l)]) (s.data.toList.drop (2 * (k + 1))) = unhexG [] s.data.toList) := by
              show unhexG _ _ = _
              rw [← hun.out, HD.out]; simp only [unhexG]; rw [hx, hy]
            have hh' : (h : Int) ≤ 15 := by omega
            have hh2' : (l : Int) ≤ 15 := by omega
            have X := Lib.hid (show 16 * (h : Int) + (l : Int) = ((UInt8.ofNat (16 * h + l)).toNat : Int) by rw [UInt8.toNat_ofNat']; omega)
            have HE0 := Lib.hid e0
            clear hx hy HD hun
            go_wp2_with fail
            go_quiet ((go_at_call 23; exact Calls.quiet_of_same (value_q _ _ (by omega) (by omega))))
            have hownq := ownsRow_drewN hown nq
            have BELQ := Lib.hid (below_drewN hbel.out nq)
            have hsizeq : w.heap.size ≤ (wr.drewN nq).heap.size := hsize
            generalize wr.drewN nq = wq at *
            clear hown hbel hsize
            go_wp2_with (at_builtin; refine wpList_append_own _ rfl (.tmp 34) (.tmp 40) 39 rfl w.heap.size 5 i0 (.int .u8 0) 1 1 Try.underlying39 hi hz0 hz1 hz2 rfl (by decide) u4 acc.length (cellsOf acc) rfl (hownq.alloc _) ⟨wq.heap.size, 0, none⟩ 1 1 [.int .u8 (16 * (h : Int) + (l : Int))] rfl rfl ?c1 ?c2 ?c3 ?c4 ?c5 ?_)
            case c1 => exact one_new _ _
            case c2 => intro u hu; simp at hu; subst hu; rfl
            case c3 => unfold maxLen; omega
            case c4 => omega
            case c5 => simp; omega
            intro v1 w1 hown1 hgrow1 _
            obtain ⟨own1, bel1, siz1⟩ := own_snoc X.out hsizeq BELQ.out hownq hown1 hgrow1
            have B1 := Lib.hid bel1
            clear hown1 hgrow1 hownq bel1 X BELQ
            go_wp2_with fail
            go_roundw
            case rel =>
              refine ⟨k + 1, acc ++ [UInt8.ofNat (16 * h + l)], by first | go_num | (congr 1; omega), by omega, by simp; omega, HST.out, own1, B1.out, siz1⟩
            case measure => simp [intOf]; omega
      · have hkn : k = n := by omega
        have hend : unhexG [] s.data.toList = some acc := by
          rw [← hun.out, hkn, List.drop_of_length_le (by have := HL.out; omega)]; rfl
        have HE := Lib.hid hend
        have hcv := conv_own hown
        clear hend hun hkn
        go_wp2_with fail
        go_ret2
        exact ⟨by rw [HE.out]; rfl, hbel.out⟩
end Go.Proofs.Ytgfpmjdkjflibaa

/- Contracts of the program's Hex and Unhex, for seats that do not hold the reference's: hexadecimal digits of any bytes, and what any text tells as such digits. -/
import Derived.Test.YtnjikipncgbjjaaGreatDoorChecked
import Derived.Test.YtnjikipncgbjjaaGreatDoorMath
import Derived.WalkKit
import Derived.LoopTactic
import Derived.ProofKit
import Derived.WalkSpells
import Derived.WalkLawsBesides
import Derived.Outline
import Derived.Lib.Hide
import Derived.Handy
import Derived.Lib.Strings
import Derived.Deep.OwnRows
import Derived.Laws.BytesArg
import Derived.Laws.Strings3
import Derived.Lib.LazyBuf
import Derived.RegionTactic
import Derived.Deep.RegionWith
import Derived.BigQuiet
import Derived.Deep.QuietTactic
import Derived.Lib.HexFns2
import Derived.Laws.AppendOwn
import Derived.Laws.OwnMore
import Derived.Lib.OthersKept
import Derived.Deep.RegionHeld3
import Derived.Deep.AppendLies
import Derived.OwnWalk
namespace Go.Proofs.YtnjikipncgbjjaaGreatDoor
open Go.RowKit
set_option linter.unusedVariables false
set_option maxRecDepth 100000
theorem ret_int {k : IntKind} {a b : Int} (h : a = b) : Ending.returned (.int k a) = .returned (.int k b) := by rw [h]

/-- The hexadecimal digit of a number below 16. -/
def hexD (n : Int) : Int := if n < 10 then 48 + n else 87 + n
/-- What a byte tells as a hexadecimal digit; 16: nothing. -/
def hexV (c : Int) : Int := if 48 ≤ c ∧ c ≤ 57 then c - 48 else if 97 ≤ c ∧ c ≤ 102 then c - 87 else 16

theorem hexValue_any (c : Int) (w : World) (h0 : 0 ≤ c) (h1 : c ≤ 255) :
    Calls Tryz.prog 136 #[.int .u8 c] w fun e w' => e = .returned (.int .u8 (hexV c)) ∧ w = w' := by
  have H : ∀ v, hexV c = v → Calls Tryz.prog 136 #[.int .u8 c] w fun e w' => e = .returned (.int .u8 v) ∧ w = w' := by
    intro v hv
    have HV := Lib.hid hv
    clear hv
    go_enter Tryz.func136, Tryz.ntmps136
    go_wp2
    all_goals go_ret
    all_goals refine ⟨ret_int ?_, rfl⟩
    all_goals rw [← HV.out]; unfold hexV
    all_goals first
      | (rw [if_pos (by omega)]; done)
      | (rw [if_neg (by omega), if_pos (by omega)]; omega)
      | (rw [if_neg (by omega), if_neg (by omega)]; done)
  exact H _ rfl

theorem drop_cons (s : ByteArray) (k : Nat) (h : k < s.size) : s.data.toList.drop k = s[k] :: s.data.toList.drop (k + 1) := by
  rw [List.drop_eq_getElem_cons (by simpa using h)]; rfl

theorem toList_eq (s : ByteArray) : s.toList = s.data.toList := Lib.toList_data s

/-- What a byte tells as a hexadecimal digit; -1: nothing. -/
def hexW (c : Int) : Int := if 48 ≤ c ∧ c ≤ 57 then c - 48 else if 97 ≤ c ∧ c ≤ 102 then c - 87 else -1

theorem add_zero_off (b l : Nat) : (⟨b, 0, none⟩ : Addr).add l = ⟨b, l, none⟩ := by
  unfold Addr.add
  split
  · rename_i h; subst h; rfl
  · simp

/-- What an answer with a text and a bool tells. -/
def pairS (o : Option (List UInt8)) : Value := match o with | some l => .tuple #[.string ⟨l.toArray⟩, .bool true] | none => .tuple #[.string ⟨#[]⟩, .bool false]


/-- The cells of a slice of n bytes, the first of which are these; the others are 0. -/
def rowH (acc : List UInt8) (j : Nat) : Value := .int .u8 ((acc[j]?.getD 0).toNat : Int)
theorem rowH_step (acc : List UInt8) (d : UInt8) (j : Nat) : (if j = acc.length then Value.int .u8 (d.toNat : Int) else rowH acc j) = rowH (acc ++ [d]) j := by
  unfold rowH
  by_cases h : j = acc.length
  · rw [if_pos h, h]; simp
  · rw [if_neg h]
    by_cases h2 : j < acc.length
    · rw [List.getElem?_append_left h2]
    · rw [List.getElem?_eq_none (by omega), List.getElem?_eq_none (by simp; omega)]

theorem hexV_some (c h : Nat) (hc : hVal c = some h) : hexV (c : Int) = (h : Int) ∧ h ≤ 15 := by
  unfold hVal at hc
  unfold hexV
  split at hc
  · cases hc; rw [if_pos (by omega)]; omega
  · split at hc
    · cases hc; rw [if_neg (by omega), if_pos (by omega)]; omega
    · cases hc
theorem hexV_none (c : Nat) (hc : hVal c = none) : hexV (c : Int) = 16 := by
  unfold hVal at hc
  unfold hexV
  split at hc
  · cases hc
  · split at hc
    · cases hc
    · rw [if_neg (by omega), if_neg (by omega)]

theorem conv_rowH {w : World} {b T M : Nat} {l : List UInt8} (hrow : w.rowIs b T M (rowH l)) (hl : l.length ≤ M) (n cap : Nat) (hn : n = l.length) :
    (convert 55 9 (.slice (some ⟨b, 0, none⟩) n cap)).run Tryz.prog w = .ok (.string ⟨l.toArray⟩) w := by
  subst hn
  have := run_convert_bytes_arg (P := Tryz.prog) w 55 5 Tryz.underlying55 Tryz.underlying5 b 0 l.length cap (l.map fun b => (b.toNat : Int)) (by simp)
    (fun i hi => by
      rw [Nat.zero_add, hrow.cell (by omega)]
      unfold rowH
      simp [List.getElem?_eq_getElem hi]) 9 Tryz.underlying9
  rw [Lib.Lz.strOfNums_map] at this
  exact this

theorem info8 : (Tryz.prog.info? 5).map (fun i => (i.zero, i.size, i.bytes)) = some (some (Value.int IntKind.u8 0), 1, 1) := by kernel_rfl

theorem make_bytes (n : Nat) (hn : n ≤ 281474976710656) (i : Int) (hi : i = (n : Int)) (w : World) :
    (Instr.makeSlice 55 (.int .i64 i) (.int .i64 i)).run Tryz.prog w = .ok (.slice (some ⟨w.heap.size, 0, none⟩) n n) (w.alloc (.cells (madeCells #[.int .u8 0] n) 5)) := by
  subst hi
  exact run_make_row' (P := Tryz.prog) 55 5 (.int .u8 0) 1 Tryz.underlying55 info8 rfl .i64 .i64 n (by omega) (by omega) w

theorem row_made (w : World) (n : Nat) : (w.alloc (.cells (madeCells #[.int .u8 0] n) 5)).rowIs w.heap.size 5 n (rowH []) :=
  (World.rowIs_made w (.int .u8 0) n 5).congr (fun i _ => by unfold rowH; simp)

theorem hexValue_q (c : Int) (w : World) (h0 : 0 ≤ c) (h1 : c ≤ 255) :
    Calls Tryz.prog 136 #[.int .u8 c] w fun e w' => e = .returned (.int .u8 (hexV c)) ∧ w' = w :=
  (hexValue_any c w h0 h1).mono fun _ _ ⟨a, b⟩ => ⟨a, b.symm⟩

theorem put_byte (h l : Nat) (hh : h ≤ 15) (hl : l ≤ 15) : bits BinOp.or IntKind.u8 ((h : Int) * 16) (l : Int) = ((UInt8.ofNat (16 * h + l)).toNat : Int) := by
  rw [Lib.Hx.or_digits h l (by omega) (by omega), Nat.mul_comm h 16]

theorem drop_cons2 (s : ByteArray) (k : Nat) (h : 2 * k + 1 < s.size) : s.data.toList.drop (2 * k) = s[2 * k] :: s[2 * k + 1] :: s.data.toList.drop (2 * (k + 1)) := by
  rw [drop_cons s (2 * k) (by omega), drop_cons s (2 * k + 1) h]
  rfl

theorem unhex_any (s : ByteArray) (w : World) (hs : s.size ≤ 140737488351232) :
    Calls Tryz.prog 133 #[.string s] w fun e w' => e = .returned (pairS (unhexG [] s.data.toList)) ∧ Below w.heap.size w w' := by
  have hl : s.data.toList.length = s.size := by simp
  by_cases hodd : s.size % 2 = 1
  · rw [unhexG_odd _ _ (by omega)]
    have h1 : ((s.size : Int) % 2 == 0) = false := by simp; omega
    have h2 : ((s.size : Int) % 2 != 0) = true := by simp; omega
    clear hl
    go_enter Tryz.func133, Tryz.ntmps133
    go_wp2_with fail
    go_ret2
    exact ⟨rfl, Below.refl _ _⟩
  · obtain ⟨n, hn⟩ : ∃ n, s.size = 2 * n := ⟨s.size / 2, by omega⟩
    have h1 : ((s.size : Int) % 2 == 0) = true := by simp; omega
    have h2 : ((s.size : Int) % 2 != 0) = false := by simp; omega
    have hmk := fun w0 : World => make_bytes n (by omega) ((s.size : Int) / 2) (by omega) w0
    have HL := Lib.hid hl
    have HN := Lib.hid hn
    have hn1 : s.size ≤ 2 * n := by omega
    have hn2 : 2 * n ≤ s.size := by omega
    clear hl hn hodd
    go_enter Tryz.func133, Tryz.ntmps133
    go_wp2_with fail
    go_loopw [18] (fun i wr => ∃ (k : Nat) (acc : List UInt8), i = .int .i64 k ∧ k ≤ n ∧ Hid (acc.length = k) ∧ Hid (unhexG acc (s.data.toList.drop (2 * k)) = unhexG [] s.data.toList) ∧ Hid (wr.rowIs w.heap.size 5 n (rowH acc)) ∧ Hid (Below w.heap.size w wr)) (fun i _ => n - (intOf i).toNat)
    case atStart => exact ⟨0, [], rfl, Nat.zero_le _, rfl, rfl, row_made w n, (Below.refl _ _).alloc (Nat.le_refl _) _⟩
    case round =>
      obtain ⟨k, acc, rfl, hk, hacc, hun, hrow, hbel⟩ := hrel
      by_cases hlt : k < n
      · have HD := Lib.hid (drop_cons2 s k (by omega))
        have x1 : (s[2 * k].toNat : Int) ≤ 255 := by have := UInt8.toNat_lt s[2 * k]; omega
        have x0 : 0 ≤ (s[2 * k].toNat : Int) := by omega
        have y1 : (s[2 * k + 1].toNat : Int) ≤ 255 := by have := UInt8.toNat_lt s[2 * k + 1]; omega
        have y0 : 0 ≤ (s[2 * k + 1].toNat : Int) := by omega
        have e1 : IntKind.i64.wrap (2 * (k : Int)) = 2 * (k : Int) := IntWalk.i64_in _ (by omega)
        have e2 : IntKind.i64.wrap (2 * (k : Int) + 1) = 2 * (k : Int) + 1 := IntWalk.i64_in _ (by omega)
        have e3 : (0 : Int) ≤ 2 * (k : Int) := by omega
        have e4 : (0 : Int) ≤ 2 * (k : Int) + 1 := by omega
        have e5 : (2 * (k : Int)).toNat = 2 * k := by omega
        have e6 : (2 * (k : Int) + 1).toNat = 2 * k + 1 := by omega
        have e7 : 2 * (k : Int) < s.size := by omega
        have e8 : 2 * (k : Int) + 1 < s.size := by omega
        cases hx : hVal s[2 * k].toNat with
        | none =>
          have HNO : Hid (unhexG [] s.data.toList = none) := by
            show unhexG [] s.data.toList = none
            rw [← hun.out, HD.out]; simp only [unhexG]; rw [hx]
          have hv := hexV_none _ hx
          clear hx HD hun
          go_wp2_with fail
          go_quiet ((go_at_call 136; exact Calls.quiet_of_same (hexValue_q _ _ (by omega) (by omega))))
          go_wp2_with fail
          go_ret2
          exact ⟨by rw [HNO.out]; rfl, below_drewN hbel.out _⟩
        | some h =>
          obtain ⟨hv, hh⟩ := hexV_some _ _ hx
          cases hy : hVal s[2 * k + 1].toNat with
          | none =>
            have HNO : Hid (unhexG [] s.data.toList = none) := by
              show unhexG [] s.data.toList = none
              rw [← hun.out, HD.out]; simp only [unhexG]; rw [hx, hy]
            have hv2 := hexV_none _ hy
            have hh' : (h : Int) ≤ 15 := by omega
            clear hx hy HD hun
            go_wp2_with fail
            go_quiet ((go_at_call 136; exact Calls.quiet_of_same (hexValue_q _ _ (by omega) (by omega))))
            go_wp2_with fail
            go_ret2
            exact ⟨by rw [HNO.out]; rfl, below_drewN hbel.out _⟩
          | some l =>
            obtain ⟨hv2, hh2⟩ := hexV_some _ _ hy
            have HST : Hid (unhexG (acc ++ [UInt8.ofNat (16 * h + l)]) (s.data.toList.drop (2 * (k + 1))) = unhexG [] s.data.toList) := by
              show unhexG _ _ = _
              rw [← hun.out, HD.out]; simp only [unhexG]; rw [hx, hy]
            have hh' : (h : Int) ≤ 15 := by omega
            have hh2' : (l : Int) ≤ 15 := by omega
            have hc : wr.cell? ⟨w.heap.size, k, none⟩ = some (rowH acc k) := hrow.out.cell hlt
            have hf : wr.frozen? ⟨w.heap.size, k, none⟩ = false := hrow.out.frozen _
            clear hx hy HD hun
            go_wp2_with fail
            go_quiet ((go_at_call 136; exact Calls.quiet_of_same (hexValue_q _ _ (by omega) (by omega))))
            go_wp2_with fail
            go_roundw
            case rel =>
              refine ⟨k + 1, acc ++ [UInt8.ofNat (16 * h + l)], by go_num, by omega, by have := hacc.out; show List.length _ = _; simpa using this, HST.out, ?_, (below_drewN hbel.out _).setCell (Nat.le_refl _) _⟩
              rw [put_byte h l hh hh2]
              refine World.rowIs.congr (World.rowIs.set (w := wr.drewN _) (hrow.out.of_block rfl) k _) (fun j _ => ?_)
              rw [← rowH_step, hacc.out]
            case measure => simp [intOf]; omega
      · have hkn : k = n := by omega
        have hend : unhexG [] s.data.toList = some acc := by
          rw [← hun.out, hkn, List.drop_of_length_le (by have := HL.out; omega)]; rfl
        have HE := Lib.hid hend
        have hcv := conv_rowH hrow.out (by have := hacc.out; omega) n n (by have := hacc.out; omega)
        clear hend hun hkn
        go_wp2_with fail
        go_ret2
        exact ⟨by rw [HE.out]; rfl, hbel.out⟩

def cellsOf (l : List UInt8) : List Value := l.map fun b => Value.int .u8 (b.toNat : Int)
theorem cellsOf_snoc (l : List UInt8) (d : UInt8) : cellsOf (l ++ [d]) = cellsOf l ++ [.int .u8 (d.toNat : Int)] := by simp [cellsOf]

/-- The bytes that a slice of the call's own holds, as a string. -/
theorem conv_own {w : World} {B : Nat} {v : Value} {l : List UInt8} (h : w.ownsRow B 5 1 v l.length (cellsOf l)) :
    (convert 55 9 v).run Tryz.prog w = .ok (.string ⟨l.toArray⟩) w := by
  have hcells := fun g (hg : v.ownBlock = some g) => h.cells hg
  obtain ⟨h1, h2⟩ := h
  rcases h2 with ⟨rfl, hx⟩ | ⟨g, cap, cur, rfl, hg, hh, r⟩
  · have hl : l = [] := by cases l; rfl; simp at hx
    subst hl
    exact run_convert_bytes_nil w 55 5 Tryz.underlying55 Tryz.underlying5 0 0 9 Tryz.underlying9
  · have := run_convert_bytes_arg (P := Tryz.prog) w 55 5 Tryz.underlying55 Tryz.underlying5 g 0 l.length cap (l.map fun b => (b.toNat : Int)) (by simp)
      (fun i hi => by
        have hc := hcells g rfl i (.int .u8 (l[i].toNat : Int)) (by simp [cellsOf, List.getElem?_eq_getElem hi])
        rw [add_zero_off] at hc
        rw [Nat.zero_add, hc]
        simp [List.getElem?_eq_getElem hi]) 9 Tryz.underlying9
    rw [Lib.Lz.strOfNums_map] at this
    exact this

/-- What an append of one byte leaves. -/
theorem own_snoc {w wr w1 : World} {B : Nat} {v v' : Value} {l : List UInt8} {d : UInt8} {x : Int} {o : Obj} (hx : x = (d.toNat : Int)) (hB : B ≤ wr.heap.size) (hbel : Below B w wr)
    (hown : wr.ownsRow B 5 1 v l.length (cellsOf l)) (hown' : w1.ownsRow B 5 1 v' (l.length + 1) (cellsOf l ++ [.int .u8 x])) (hgrow : (wr.alloc o).grownBy w1 v.ownBlock) :
    w1.ownsRow B 5 1 v' (l ++ [d]).length (cellsOf (l ++ [d])) ∧ Below B w w1 ∧ B ≤ w1.heap.size := by
  subst hx
  have hb := (hbel.alloc hB o).grown hgrow (by simp; omega) (fun k hk => (hown.lt k hk).1)
  refine ⟨by rw [cellsOf_snoc]; simpa using hown', hb, ?_⟩
  have := hgrow.size
  simp at this; omega

theorem one_new (w : World) (x : Value) : ∀ j u, [x][j]? = some u → (w.alloc (.cells #[x] 5)).cell? ((⟨w.heap.size, 0, none⟩ : Addr).add j) = some u := by
  intro j u h
  match j, h with
  | 0, h =>
    simp at h; subst h
    rw [add_zero_off, World.cell?_alloc_new]; rfl
  | j + 1, h => simp at h

theorem hexD_byte (n : Nat) (h : n < 16) : hexD (n : Int) = ((hByte n).toNat : Int) := by
  rw [hByte_toNat n h]; unfold hexD
  split
  · rw [if_pos (by omega)]; omega
  · rw [if_neg (by omega)]; omega

theorem take_snoc (s : ByteArray) (k : Nat) (h : k < s.size) : s.data.toList.take (k + 1) = s.data.toList.take k ++ [s[k]] := by
  rw [List.take_succ_eq_append_getElem (by simpa using h)]; rfl

theorem hexW_some (c h : Nat) (hc : hVal c = some h) : hexW (c : Int) = (h : Int) ∧ h ≤ 15 := by
  unfold hVal at hc
  unfold hexW
  split at hc
  · cases hc; rw [if_pos (by omega)]; omega
  · split at hc
    · cases hc; rw [if_neg (by omega), if_pos (by omega)]; omega
    · cases hc
theorem hexW_none (c : Nat) (hc : hVal c = none) : hexW (c : Int) = -1 := by
  unfold hVal at hc
  unfold hexW
  split at hc
  · cases hc
  · split at hc
    · cases hc
    · rw [if_neg (by omega), if_neg (by omega)]
theorem ownsRow_drewN {w : World} {B T : Nat} {v : Value} {n : Nat} {xs : List Value} (h : w.ownsRow B T 1 v n xs) (q : Nat) : (w.drewN q).ownsRow B T 1 v n xs := h

theorem make_room (n : Nat) (hn : n ≤ 281474976710656) (i : Int) (hi : i = (n : Int)) (w : World) :
    (Instr.makeSlice 55 (.int .i64 0) (.int .i64 i)).run Tryz.prog w = .ok (.slice (some ⟨w.heap.size, 0, none⟩) 0 n) (w.alloc (.cells (madeCells #[.int .u8 0] n) 5)) := by
  subst hi
  obtain ⟨i0, h1, h2, h3, h4⟩ := info_parts info8
  have := run_make (P := Tryz.prog) w 55 5 i0 (.int .u8 0) Tryz.underlying55 h1 h2 .i64 .i64 0 n (by omega) (by omega) (by rw [h4]; omega) (by omega)
  rw [h3, show (Value.int IntKind.u8 0).cells = #[.int .u8 0] from rfl] at this
  simpa using this

theorem tab_at (n : Nat) (hn : n < 16) (h : n < (⟨#[48, 49, 50, 51, 52, 53, 54, 55, 56, 57, 97, 98, 99, 100, 101, 102]⟩ : ByteArray).size) :
    (((⟨#[48, 49, 50, 51, 52, 53, 54, 55, 56, 57, 97, 98, 99, 100, 101, 102]⟩ : ByteArray)[n]'h).toNat : Int) = ((hByte n).toNat : Int) := by
  rcases n with _ | _ | _ | _ | _ | _ | _ | _ | _ | _ | _ | _ | _ | _ | _ | _ | n
  all_goals first | rfl | omega

/-- What an append of two bytes leaves. -/
theorem own_snoc2 {w wr w1 : World} {B : Nat} {v v' : Value} {l : List UInt8} {d1 d2 : UInt8} {x1 x2 : Int} {o : Obj} (hx1 : x1 = (d1.toNat : Int)) (hx2 : x2 = (d2.toNat : Int)) (hB : B ≤ wr.heap.size) (hbel : Below B w wr)
    (hown : wr.ownsRow B 5 1 v l.length (cellsOf l)) (hown' : w1.ownsRow B 5 1 v' (l.length + 2) (cellsOf l ++ [.int .u8 x1, .int .u8 x2])) (hgrow : (wr.alloc o).drew.grownBy w1 v.ownBlock) :
    w1.ownsRow B 5 1 v' (l ++ [d1, d2]).length (cellsOf (l ++ [d1, d2])) ∧ Below B w w1 ∧ B ≤ w1.heap.size := by
  subst hx1 hx2
  have hb := ((hbel.alloc hB o).drew).grown hgrow (by show B ≤ (wr.alloc o).heap.size; simp; omega) (fun k hk => (hown.lt k hk).1)
  have e : cellsOf (l ++ [d1, d2]) = cellsOf l ++ [.int .u8 (d1.toNat : Int), .int .u8 (d2.toNat : Int)] := by simp [cellsOf]
  refine ⟨by rw [e]; simpa using hown', hb, ?_⟩
  have h1 : (wr.alloc o).heap.size ≤ w1.heap.size := hgrow.size
  simp at h1; omega

theorem hex_any (s : ByteArray) (w : World) (hs : s.size ≤ 1099511627776) :
    Calls Tryz.prog 118 #[.string s] w fun e w' => e = .returned (.string ⟨(hexL s.data.toList).toArray⟩) ∧ Below w.heap.size w w' := by
  obtain ⟨i0, hi, hz0, hz1, hz2⟩ := info_parts info8
  have hmk := fun w0 : World => make_room (2 * s.size) (by omega) (2 * (s.size : Int)) (by omega) w0
  go_enter Tryz.func118, Tryz.ntmps118
  go_wp2_with fail
  go_loopw [3, 11] (fun v i wr => ∃ (k : Nat) (acc : List UInt8), i = .int .i64 k ∧ k ≤ s.size ∧ Hid (acc = hexL (s.data.toList.take k)) ∧ wr.ownsRow w.heap.size 5 1 v acc.length (cellsOf acc) ∧ Hid (Below w.heap.size w wr) ∧ w.heap.size ≤ wr.heap.size) (fun _ i _ => s.size - (intOf i).toNat)
  case atStart => exact ⟨0, [], rfl, Nat.zero_le _, rfl, World.ownsRow_made w _ _ (Nat.le_refl _) (by unfold maxLen; omega) (by rw [size_madeCells]; omega), (Below.refl _ _).alloc (Nat.le_refl _) _, by simp⟩
  case round =>
    obtain ⟨k, acc, rfl, hk, hacc, hown, hbel, hsize⟩ := hrel
    by_cases hlt : k < s.size
    · have b1 : (s[k].toNat : Int) ≤ 255 := by have := UInt8.toNat_lt s[k]; omega
      have b0 : 0 ≤ (s[k].toNat : Int) := by omega
      have hki : (0 : Int) ≤ (k : Int) := by omega
      have hki2 : (k : Int) < (s.size : Int) := by omega
      have hal : acc.length ≤ 2 * k := by rw [hacc.out, hexL_length]; simp; omega
      have hand := u8_and15 (x := (s[k].toNat : Int)) b0 (by omega)
      have h15 : (0 : Int) ≤ (s[k].toNat : Int) % 16 := by omega
      have h15' : (s[k].toNat : Int) % 16 < 16 := by omega
      go_wp2_with fail
      go_region_held3 (fun w' => True) (trivial) (first | (refine step_append_lies _ (by rfl) _ _ _ (by rfl) w.heap.size 5 i0 _ 1 1 Tryz.underlying55 hi hz0 hz1 hz2 rfl (by omega) u3 acc.length (cellsOf acc) (by rfl) ((hown.alloc _).drew) ⟨wr.heap.size, 0, none⟩ 2 2 [.int .u8 _, .int .u8 _] (by rfl) (by rfl) (World.news_of_block (cs := #[.int .u8 _, .int .u8 _]) (t := 5) (fr := (0, 0)) (heap_alloc_new wr _)) (by simp [Value.oneCell']) (by omega) (by unfold maxLen; omega) (by omega) (by simp; omega) (wr.heap.size + 1) (by simp) ?_; intro gg cap w1 hown1 hgrow hat hltt))
      all_goals
        have hx1 := tab_at ((s[k].toNat : Int) / 16).toNat (by omega) (by show _ < 16; omega)
        have hx2 := tab_at ((s[k].toNat : Int) % 16).toNat (by omega) (by show _ < 16; omega)
        obtain ⟨own1, bel1, siz1⟩ := own_snoc2 (hx1.trans (by congr 3)) (hx2.trans (by congr 3)) hsize hbel.out hown hown1 hgrow
        have B1 := Lib.hid bel1
        have HT := Lib.hid (take_snoc s k hlt)
        clear hx1 hx2 hown1 hgrow hown bel1
        go_wp2_with fail
        go_roundw
        case rel =>
          refine ⟨k + 1, acc ++ [hByte (s[k].toNat / 16), hByte (s[k].toNat % 16)], by go_num, by omega, ?_, own1, B1.out, siz1⟩
          show acc ++ [hByte (s[k].toNat / 16), hByte (s[k].toNat % 16)] = hexL (s.data.toList.take (k + 1))
          rw [HT.out, hexL_append, ← hacc.out]; simp [hexL]
        case measure => simp [intOf]; omega
    · have hks : k = s.size := by omega
      have hend : acc = hexL s.data.toList := by rw [hacc.out, hks, List.take_of_length_le (by simp)]
      have hcv := conv_own hown
      rw [hend] at hcv
      clear hend hks hacc
      go_wp2_with fail
      go_ret
      exact ⟨rfl, hbel.out⟩
end Go.Proofs.YtnjikipncgbjjaaGreatDoor

/- Contracts of the program's Hex and Unhex, for seats that do not hold the reference's: hexadecimal digits of any bytes, and what any text tells as such digits. The library's functions that package quote calls, laid at this program: which numbers they and their types bear here; the kernel compares each body with the one that the library's contract was proved of. The library's functions that package quote calls, by the shelf's contracts as they are laid at this program: a strings.Builder's writers (over lists of bytes), strings.HasPrefix, IndexByte, IndexRune and ToLower. The library's functions that package json calls, by the shelf's contracts as they are laid at this program. -/
import Derived.Test.YtaniebkfgkhgoaaGreatDoorChecked
import Derived.Test.YtaniebkfgkhgoaaGreatDoorJ0
import Derived.Test.YtaniebkfgkhgoaaGreatDoorProg
import Derived.WalkKit
import Derived.LoopTactic
import Derived.ProofKit
import Derived.WalkSpells
import Derived.WalkLawsBesides
import Derived.Outline
import Derived.Lib.Hide
import Derived.Handy
import Derived.Lib.Strings
import Derived.Deep.OwnRows
import Derived.Laws.BytesArg
import Derived.Laws.Strings3
import Derived.Lib.LazyBuf
import Derived.RegionTactic
import Derived.Deep.RegionWith
import Derived.BigQuiet
import Derived.Deep.QuietTactic
import Derived.Lib.HexFns2
import Derived.Laws.AppendOwn
import Derived.Laws.OwnMore
import Derived.Lib.OthersKept
import Derived.Deep.RegionHeld3
import Derived.Deep.AppendLies
import Derived.OwnWalk
import Derived.Shelf.Small.Strs
import Derived.Shelf.Strings.BuilderK
import Derived.Shelf.Strings.BuilderRune
import Derived.Shelf.Strings.Prefix
import Derived.Shelf.Strings.Runes
import Derived.Shelf.Strings.CaseAny
import Derived.Shelf.Small.Wraps
import Derived.Shelf.Strings.BuilderF
import Derived.Shelf.Strings.SlTrimAscii
namespace Go.Proofs.YtaniebkfgkhgoaaGreatDoor
open Go.RowKit
set_option linter.unusedVariables false
set_option maxRecDepth 100000
theorem ret_int {k : IntKind} {a b : Int} (h : a = b) : Ending.returned (.int k a) = .returned (.int k b) := by rw [h]

/-- The hexadecimal digit of a number below 16. -/
def hexD (n : Int) : Int := if n < 10 then 48 + n else 87 + n
/-- What a byte tells as a hexadecimal digit; 16: nothing. -/
def hexV (c : Int) : Int := if 48 ≤ c ∧ c ≤ 57 then c - 48 else if 97 ≤ c ∧ c ≤ 102 then c - 87 else 16

theorem hexValue_any (c : Int) (w : World) (h0 : 0 ≤ c) (h1 : c ≤ 255) :
    Calls Tryz.prog 135 #[.int .u8 c] w fun e w' => e = .returned (.int .u8 (hexV c)) ∧ w = w' := by
  have H : ∀ v, hexV c = v → Calls Tryz.prog 135 #[.int .u8 c] w fun e w' => e = .returned (.int .u8 v) ∧ w = w' := by
    intro v hv
    have HV := Lib.hid hv
    clear hv
    go_enter Tryz.func135, Tryz.ntmps135
    go_wp2
    all_goals go_ret
    all_goals refine ⟨ret_int ?_, rfl⟩
    all_goals rw [← HV.out]; unfold hexV
    all_goals first
      | (rw [if_pos (by omega)]; done)
      | (rw [if_neg (by omega), if_pos (by omega)]; omega)
      | (rw [if_neg (by omega), if_neg (by omega)]; done)
  exact H _ rfl

theorem drop_cons (s : ByteArray) (k : Nat) (h : k < s.size) : s.data.toList.drop k = s[k] :: s.data.toList.drop (k + 1) := by
  rw [List.drop_eq_getElem_cons (by simpa using h)]; rfl

theorem toList_eq (s : ByteArray) : s.toList = s.data.toList := Lib.toList_data s

/-- What a byte tells as a hexadecimal digit; -1: nothing. -/
def hexW (c : Int) : Int := if 48 ≤ c ∧ c ≤ 57 then c - 48 else if 97 ≤ c ∧ c ≤ 102 then c - 87 else -1

theorem add_zero_off (b l : Nat) : (⟨b, 0, none⟩ : Addr).add l = ⟨b, l, none⟩ := by
  unfold Addr.add
  split
  · rename_i h; subst h; rfl
  · simp

/-- What an answer with a text and a bool tells. -/
def pairS (o : Option (List UInt8)) : Value := match o with | some l => .tuple #[.string ⟨l.toArray⟩, .bool true] | none => .tuple #[.string ⟨#[]⟩, .bool false]


/-- The cells of a slice of n bytes, the first of which are these; the others are 0. -/
def rowH (acc : List UInt8) (j : Nat) : Value := .int .u8 ((acc[j]?.getD 0).toNat : Int)
theorem rowH_step (acc : List UInt8) (d : UInt8) (j : Nat) : (if j = acc.length then Value.int .u8 (d.toNat : Int) else rowH acc j) = rowH (acc ++ [d]) j := by
  unfold rowH
  by_cases h : j = acc.length
  · rw [if_pos h, h]; simp
  · rw [if_neg h]
    by_cases h2 : j < acc.length
    · rw [List.getElem?_append_left h2]
    · rw [List.getElem?_eq_none (by omega), List.getElem?_eq_none (by simp; omega)]

theorem hexV_some (c h : Nat) (hc : hVal c = some h) : hexV (c : Int) = (h : Int) ∧ h ≤ 15 := by
  unfold hVal at hc
  unfold hexV
  split at hc
  · cases hc; rw [if_pos (by omega)]; omega
  · split at hc
    · cases hc; rw [if_neg (by omega), if_pos (by omega)]; omega
    · cases hc
theorem hexV_none (c : Nat) (hc : hVal c = none) : hexV (c : Int) = 16 := by
  unfold hVal at hc
  unfold hexV
  split at hc
  · cases hc
  · split at hc
    · cases hc
    · rw [if_neg (by omega), if_neg (by omega)]

theorem conv_rowH {w : World} {b T M : Nat} {l : List UInt8} (hrow : w.rowIs b T M (rowH l)) (hl : l.length ≤ M) (n cap : Nat) (hn : n = l.length) :
    (convert 54 9 (.slice (some ⟨b, 0, none⟩) n cap)).run Tryz.prog w = .ok (.string ⟨l.toArray⟩) w := by
  subst hn
  have := run_convert_bytes_arg (P := Tryz.prog) w 54 5 Tryz.underlying54 Tryz.underlying5 b 0 l.length cap (l.map fun b => (b.toNat : Int)) (by simp)
    (fun i hi => by
      rw [Nat.zero_add, hrow.cell (by omega)]
      unfold rowH
      simp [List.getElem?_eq_getElem hi]) 9 Tryz.underlying9
  rw [Lib.Lz.strOfNums_map] at this
  exact this

theorem info8 : (Tryz.prog.info? 5).map (fun i => (i.zero, i.size, i.bytes)) = some (some (Value.int IntKind.u8 0), 1, 1) := by kernel_rfl

theorem make_bytes (n : Nat) (hn : n ≤ 281474976710656) (i : Int) (hi : i = (n : Int)) (w : World) :
    (Instr.makeSlice 54 (.int .i64 i) (.int .i64 i)).run Tryz.prog w = .ok (.slice (some ⟨w.heap.size, 0, none⟩) n n) (w.alloc (.cells (madeCells #[.int .u8 0] n) 5)) := by
  subst hi
  exact run_make_row' (P := Tryz.prog) 54 5 (.int .u8 0) 1 Tryz.underlying54 info8 rfl .i64 .i64 n (by omega) (by omega) w

theorem row_made (w : World) (n : Nat) : (w.alloc (.cells (madeCells #[.int .u8 0] n) 5)).rowIs w.heap.size 5 n (rowH []) :=
  (World.rowIs_made w (.int .u8 0) n 5).congr (fun i _ => by unfold rowH; simp)

theorem hexValue_q (c : Int) (w : World) (h0 : 0 ≤ c) (h1 : c ≤ 255) :
    Calls Tryz.prog 135 #[.int .u8 c] w fun e w' => e = .returned (.int .u8 (hexV c)) ∧ w' = w :=
  (hexValue_any c w h0 h1).mono fun _ _ ⟨a, b⟩ => ⟨a, b.symm⟩

theorem put_byte (h l : Nat) (hh : h ≤ 15) (hl : l ≤ 15) : bits BinOp.or IntKind.u8 ((h : Int) * 16) (l : Int) = ((UInt8.ofNat (16 * h + l)).toNat : Int) := by
  rw [Lib.Hx.or_digits h l (by omega) (by omega), Nat.mul_comm h 16]

theorem drop_cons2 (s : ByteArray) (k : Nat) (h : 2 * k + 1 < s.size) : s.data.toList.drop (2 * k) = s[2 * k] :: s[2 * k + 1] :: s.data.toList.drop (2 * (k + 1)) := by
  rw [drop_cons s (2 * k) (by omega), drop_cons s (2 * k + 1) h]
  rfl

theorem unhex_any (s : ByteArray) (w : World) (hs : s.size ≤ 140737488351232) :
    Calls Tryz.prog 132 #[.string s] w fun e w' => e = .returned (pairS (unhexG [] s.data.toList)) ∧ Below w.heap.size w w' := by
  have hl : s.data.toList.length = s.size := by simp
  by_cases hodd : s.size % 2 = 1
  · rw [unhexG_odd _ _ (by omega)]
    have h1 : ((s.size : Int) % 2 == 0) = false := by simp; omega
    have h2 : ((s.size : Int) % 2 != 0) = true := by simp; omega
    clear hl
    go_enter Tryz.func132, Tryz.ntmps132
    go_wp2_with fail
    go_ret2
    exact ⟨rfl, Below.refl _ _⟩
  · obtain ⟨n, hn⟩ : ∃ n, s.size = 2 * n := ⟨s.size / 2, by omega⟩
    have h1 : ((s.size : Int) % 2 == 0) = true := by simp; omega
    have h2 : ((s.size : Int) % 2 != 0) = false := by simp; omega
    have hmk := fun w0 : World => make_bytes n (by omega) ((s.size : Int) / 2) (by omega) w0
    have HL := Lib.hid hl
    have HN := Lib.hid hn
    have hn1 : s.size ≤ 2 * n := by omega
    have hn2 : 2 * n ≤ s.size := by omega
    clear hl hn hodd
    go_enter Tryz.func132, Tryz.ntmps132
    go_wp2_with fail
    go_loopw [18] (fun i wr => ∃ (k : Nat) (acc : List UInt8), i = .int .i64 k ∧ k ≤ n ∧ Hid (acc.length = k) ∧ Hid (unhexG acc (s.data.toList.drop (2 * k)) = unhexG [] s.data.toList) ∧ Hid (wr.rowIs w.heap.size 5 n (rowH acc)) ∧ Hid (Below w.heap.size w wr)) (fun i _ => n - (intOf i).toNat)
    case atStart => exact ⟨0, [], rfl, Nat.zero_le _, rfl, rfl, row_made w n, (Below.refl _ _).alloc (Nat.le_refl _) _⟩
    case round =>
      obtain ⟨k, acc, rfl, hk, hacc, hun, hrow, hbel⟩ := hrel
      by_cases hlt : k < n
      · have HD := Lib.hid (drop_cons2 s k (by omega))
        have x1 : (s[2 * k].toNat : Int) ≤ 255 := by have := UInt8.toNat_lt s[2 * k]; omega
        have x0 : 0 ≤ (s[2 * k].toNat : Int) := by omega
        have y1 : (s[2 * k + 1].toNat : Int) ≤ 255 := by have := UInt8.toNat_lt s[2 * k + 1]; omega
        have y0 : 0 ≤ (s[2 * k + 1].toNat : Int) := by omega
        have e1 : IntKind.i64.wrap (2 * (k : Int)) = 2 * (k : Int) := IntWalk.i64_in _ (by omega)
        have e2 : IntKind.i64.wrap (2 * (k : Int) + 1) = 2 * (k : Int) + 1 := IntWalk.i64_in _ (by omega)
        have e3 : (0 : Int) ≤ 2 * (k : Int) := by omega
        have e4 : (0 : Int) ≤ 2 * (k : Int) + 1 := by omega
        have e5 : (2 * (k : Int)).toNat = 2 * k := by omega
        have e6 : (2 * (k : Int) + 1).toNat = 2 * k + 1 := by omega
        have e7 : 2 * (k : Int) < s.size := by omega
        have e8 : 2 * (k : Int) + 1 < s.size := by omega
        cases hx : hVal s[2 * k].toNat with
        | none =>
          have HNO : Hid (unhexG [] s.data.toList = none) := by
            show unhexG [] s.data.toList = none
            rw [← hun.out, HD.out]; simp only [unhexG]; rw [hx]
          have hv := hexV_none _ hx
          clear hx HD hun
          go_wp2_with fail
          go_quiet ((go_at_call 135; exact Calls.quiet_of_same (hexValue_q _ _ (by omega) (by omega))))
          go_wp2_with fail
          go_ret2
          exact ⟨by rw [HNO.out]; rfl, below_drewN hbel.out _⟩
        | some h =>
          obtain ⟨hv, hh⟩ := hexV_some _ _ hx
          cases hy : hVal s[2 * k + 1].toNat with
          | none =>
            have HNO : Hid (unhexG [] s.data.toList = none) := by
              show unhexG [] s.data.toList = none
              rw [← hun.out, HD.out]; simp only [unhexG]; rw [hx, hy]
            have hv2 := hexV_none _ hy
            have hh' : (h : Int) ≤ 15 := by omega
            clear hx hy HD hun
            go_wp2_with fail
            go_quiet ((go_at_call 135; exact Calls.quiet_of_same (hexValue_q _ _ (by omega) (by omega))))
            go_wp2_with fail
            go_ret2
            exact ⟨by rw [HNO.out]; rfl, below_drewN hbel.out _⟩
          | some l =>
            obtain ⟨hv2, hh2⟩ := hexV_some _ _ hy
            have HST : Hid (unhexG (acc ++ [UInt8.ofNat (16 * h + l)]) (s.data.toList.drop (2 * (k + 1))) = unhexG [] s.data.toList) := by
              show unhexG _ _ = _
              rw [← hun.out, HD.out]; simp only [unhexG]; rw [hx, hy]
            have hh' : (h : Int) ≤ 15 := by omega
            have hh2' : (l : Int) ≤ 15 := by omega
            have hc : wr.cell? ⟨w.heap.size, k, none⟩ = some (rowH acc k) := hrow.out.cell hlt
            have hf : wr.frozen? ⟨w.heap.size, k, none⟩ = false := hrow.out.frozen _
            clear hx hy HD hun
            go_wp2_with fail
            go_quiet ((go_at_call 135; exact Calls.quiet_of_same (hexValue_q _ _ (by omega) (by omega))))
            go_wp2_with fail
            go_roundw
            case rel =>
              refine ⟨k + 1, acc ++ [UInt8.ofNat (16 * h + l)], by go_num, by omega, by have := hacc.out; show List.length _ = _; simpa using this, HST.out, ?_, (below_drewN hbel.out _).setCell (Nat.le_refl _) _⟩
              rw [put_byte h l hh hh2]
              refine World.rowIs.congr (World.rowIs.set (w := wr.drewN _) (hrow.out.of_block rfl) k _) (fun j _ => ?_)
              rw [← rowH_step, hacc.out]
            case measure => simp [intOf]; omega
      · have hkn : k = n := by omega
        have hend : unhexG [] s.data.toList = some acc := by
          rw [← hun.out, hkn, List.drop_of_length_le (by have := HL.out; omega)]; rfl
        have HE := Lib.hid hend
        have hcv := conv_rowH hrow.out (by have := hacc.out; omega) n n (by have := hacc.out; omega)
        clear hend hun hkn
        go_wp2_with fail
        go_ret2
        exact ⟨by rw [HE.out]; rfl, hbel.out⟩

def cellsOf (l : List UInt8) : List Value := l.map fun b => Value.int .u8 (b.toNat : Int)
theorem cellsOf_snoc (l : List UInt8) (d : UInt8) : cellsOf (l ++ [d]) = cellsOf l ++ [.int .u8 (d.toNat : Int)] := by simp [cellsOf]

/-- The bytes that a slice of the call's own holds, as a string. -/
theorem conv_own {w : World} {B : Nat} {v : Value} {l : List UInt8} (h : w.ownsRow B 5 1 v l.length (cellsOf l)) :
    (convert 54 9 v).run Tryz.prog w = .ok (.string ⟨l.toArray⟩) w := by
  have hcells := fun g (hg : v.ownBlock = some g) => h.cells hg
  obtain ⟨h1, h2⟩ := h
  rcases h2 with ⟨rfl, hx⟩ | ⟨g, cap, cur, rfl, hg, hh, r⟩
  · have hl : l = [] := by cases l; rfl; simp at hx
    subst hl
    exact run_convert_bytes_nil w 54 5 Tryz.underlying54 Tryz.underlying5 0 0 9 Tryz.underlying9
  · have := run_convert_bytes_arg (P := Tryz.prog) w 54 5 Tryz.underlying54 Tryz.underlying5 g 0 l.length cap (l.map fun b => (b.toNat : Int)) (by simp)
      (fun i hi => by
        have hc := hcells g rfl i (.int .u8 (l[i].toNat : Int)) (by simp [cellsOf, List.getElem?_eq_getElem hi])
        rw [add_zero_off] at hc
        rw [Nat.zero_add, hc]
        simp [List.getElem?_eq_getElem hi]) 9 Tryz.underlying9
    rw [Lib.Lz.strOfNums_map] at this
    exact this

/-- What an append of one byte leaves. -/
theorem own_snoc {w wr w1 : World} {B : Nat} {v v' : Value} {l : List UInt8} {d : UInt8} {x : Int} {o : Obj} (hx : x = (d.toNat : Int)) (hB : B ≤ wr.heap.size) (hbel : Below B w wr)
    (hown : wr.ownsRow B 5 1 v l.length (cellsOf l)) (hown' : w1.ownsRow B 5 1 v' (l.length + 1) (cellsOf l ++ [.int .u8 x])) (hgrow : (wr.alloc o).grownBy w1 v.ownBlock) :
    w1.ownsRow B 5 1 v' (l ++ [d]).length (cellsOf (l ++ [d])) ∧ Below B w w1 ∧ B ≤ w1.heap.size := by
  subst hx
  have hb := (hbel.alloc hB o).grown hgrow (by simp; omega) (fun k hk => (hown.lt k hk).1)
  refine ⟨by rw [cellsOf_snoc]; simpa using hown', hb, ?_⟩
  have := hgrow.size
  simp at this; omega

theorem one_new (w : World) (x : Value) : ∀ j u, [x][j]? = some u → (w.alloc (.cells #[x] 5)).cell? ((⟨w.heap.size, 0, none⟩ : Addr).add j) = some u := by
  intro j u h
  match j, h with
  | 0, h =>
    simp at h; subst h
    rw [add_zero_off, World.cell?_alloc_new]; rfl
  | j + 1, h => simp at h

theorem hexD_byte (n : Nat) (h : n < 16) : hexD (n : Int) = ((hByte n).toNat : Int) := by
  rw [hByte_toNat n h]; unfold hexD
  split
  · rw [if_pos (by omega)]; omega
  · rw [if_neg (by omega)]; omega

theorem take_snoc (s : ByteArray) (k : Nat) (h : k < s.size) : s.data.toList.take (k + 1) = s.data.toList.take k ++ [s[k]] := by
  rw [List.take_succ_eq_append_getElem (by simpa using h)]; rfl

theorem hexW_some (c h : Nat) (hc : hVal c = some h) : hexW (c : Int) = (h : Int) ∧ h ≤ 15 := by
  unfold hVal at hc
  unfold hexW
  split at hc
  · cases hc; rw [if_pos (by omega)]; omega
  · split at hc
    · cases hc; rw [if_neg (by omega), if_pos (by omega)]; omega
    · cases hc
theorem hexW_none (c : Nat) (hc : hVal c = none) : hexW (c : Int) = -1 := by
  unfold hVal at hc
  unfold hexW
  split at hc
  · cases hc
  · split at hc
    · cases hc
    · rw [if_neg (by omega), if_neg (by omega)]
theorem ownsRow_drewN {w : World} {B T : Nat} {v : Value} {n : Nat} {xs : List Value} (h : w.ownsRow B T 1 v n xs) (q : Nat) : (w.drewN q).ownsRow B T 1 v n xs := h

theorem make_room (n : Nat) (hn : n ≤ 281474976710656) (i : Int) (hi : i = (n : Int)) (w : World) :
    (Instr.makeSlice 54 (.int .i64 0) (.int .i64 i)).run Tryz.prog w = .ok (.slice (some ⟨w.heap.size, 0, none⟩) 0 n) (w.alloc (.cells (madeCells #[.int .u8 0] n) 5)) := by
  subst hi
  obtain ⟨i0, h1, h2, h3, h4⟩ := info_parts info8
  have := run_make (P := Tryz.prog) w 54 5 i0 (.int .u8 0) Tryz.underlying54 h1 h2 .i64 .i64 0 n (by omega) (by omega) (by rw [h4]; omega) (by omega)
  rw [h3, show (Value.int IntKind.u8 0).cells = #[.int .u8 0] from rfl] at this
  simpa using this

theorem tab_at (n : Nat) (hn : n < 16) (h : n < (⟨#[48, 49, 50, 51, 52, 53, 54, 55, 56, 57, 97, 98, 99, 100, 101, 102]⟩ : ByteArray).size) :
    (((⟨#[48, 49, 50, 51, 52, 53, 54, 55, 56, 57, 97, 98, 99, 100, 101, 102]⟩ : ByteArray)[n]'h).toNat : Int) = ((hByte n).toNat : Int) := by
  rcases n with _ | _ | _ | _ | _ | _ | _ | _ | _ | _ | _ | _ | _ | _ | _ | _ | n
  all_goals first | rfl | omega

/-- What an append of two bytes leaves. -/
theorem own_snoc2 {w wr w1 : World} {B : Nat} {v v' : Value} {l : List UInt8} {d1 d2 : UInt8} {x1 x2 : Int} {o : Obj} (hx1 : x1 = (d1.toNat : Int)) (hx2 : x2 = (d2.toNat : Int)) (hB : B ≤ wr.heap.size) (hbel : Below B w wr)
    (hown : wr.ownsRow B 5 1 v l.length (cellsOf l)) (hown' : w1.ownsRow B 5 1 v' (l.length + 2) (cellsOf l ++ [.int .u8 x1, .int .u8 x2])) (hgrow : (wr.alloc o).drew.grownBy w1 v.ownBlock) :
    w1.ownsRow B 5 1 v' (l ++ [d1, d2]).length (cellsOf (l ++ [d1, d2])) ∧ Below B w w1 ∧ B ≤ w1.heap.size := by
  subst hx1 hx2
  have hb := ((hbel.alloc hB o).drew).grown hgrow (by show B ≤ (wr.alloc o).heap.size; simp; omega) (fun k hk => (hown.lt k hk).1)
  have e : cellsOf (l ++ [d1, d2]) = cellsOf l ++ [.int .u8 (d1.toNat : Int), .int .u8 (d2.toNat : Int)] := by simp [cellsOf]
  refine ⟨by rw [e]; simpa using hown', hb, ?_⟩
  have h1 : (wr.alloc o).heap.size ≤ w1.heap.size := hgrow.size
  simp at h1; omega

theorem hex_any (s : ByteArray) (w : World) (hs : s.size ≤ 1099511627776) :
    Calls Tryz.prog 117 #[.string s] w fun e w' => e = .returned (.string ⟨(hexL s.data.toList).toArray⟩) ∧ Below w.heap.size w w' := by
  obtain ⟨i0, hi, hz0, hz1, hz2⟩ := info_parts info8
  have hmk := fun w0 : World => make_room (2 * s.size) (by omega) (2 * (s.size : Int)) (by omega) w0
  go_enter Tryz.func117, Tryz.ntmps117
  go_wp2_with fail
  go_loopw [3, 11] (fun v i wr => ∃ (k : Nat) (acc : List UInt8), i = .int .i64 k ∧ k ≤ s.size ∧ Hid (acc = hexL (s.data.toList.take k)) ∧ wr.ownsRow w.heap.size 5 1 v acc.length (cellsOf acc) ∧ Hid (Below w.heap.size w wr) ∧ w.heap.size ≤ wr.heap.size) (fun _ i _ => s.size - (intOf i).toNat)
  case atStart => exact ⟨0, [], rfl, Nat.zero_le _, rfl, World.ownsRow_made w _ _ (Nat.le_refl _) (by unfold maxLen; omega) (by rw [size_madeCells]; omega), (Below.refl _ _).alloc (Nat.le_refl _) _, by simp⟩
  case round =>
    obtain ⟨k, acc, rfl, hk, hacc, hown, hbel, hsize⟩ := hrel
    by_cases hlt : k < s.size
    · have b1 : (s[k].toNat : Int) ≤ 255 := by have := UInt8.toNat_lt s[k]; omega
      have b0 : 0 ≤ (s[k].toNat : Int) := by omega
      have hki : (0 : Int) ≤ (k : Int) := by omega
      have hki2 : (k : Int) < (s.size : Int) := by omega
      have hal : acc.length ≤ 2 * k := by rw [hacc.out, hexL_length]; simp; omega
      have hand := u8_and15 (x := (s[k].toNat : Int)) b0 (by omega)
      have h15 : (0 : Int) ≤ (s[k].toNat : Int) % 16 := by omega
      have h15' : (s[k].toNat : Int) % 16 < 16 := by omega
      go_wp2_with fail
      go_region_held3 (fun w' => True) (trivial) (first | (refine step_append_lies _ (by rfl) _ _ _ (by rfl) w.heap.size 5 i0 _ 1 1 Tryz.underlying54 hi hz0 hz1 hz2 rfl (by omega) u3 acc.length (cellsOf acc) (by rfl) ((hown.alloc _).drew) ⟨wr.heap.size, 0, none⟩ 2 2 [.int .u8 _, .int .u8 _] (by rfl) (by rfl) (World.news_of_block (cs := #[.int .u8 _, .int .u8 _]) (t := 5) (fr := (0, 0)) (heap_alloc_new wr _)) (by simp [Value.oneCell']) (by omega) (by unfold maxLen; omega) (by omega) (by simp; omega) (wr.heap.size + 1) (by simp) ?_; intro gg cap w1 hown1 hgrow hat hltt))
      all_goals
        have hx1 := tab_at ((s[k].toNat : Int) / 16).toNat (by omega) (by show _ < 16; omega)
        have hx2 := tab_at ((s[k].toNat : Int) % 16).toNat (by omega) (by show _ < 16; omega)
        obtain ⟨own1, bel1, siz1⟩ := own_snoc2 (hx1.trans (by congr 3)) (hx2.trans (by congr 3)) hsize hbel.out hown hown1 hgrow
        have B1 := Lib.hid bel1
        have HT := Lib.hid (take_snoc s k hlt)
        clear hx1 hx2 hown1 hgrow hown bel1
        go_wp2_with fail
        go_roundw
        case rel =>
          refine ⟨k + 1, acc ++ [hByte (s[k].toNat / 16), hByte (s[k].toNat % 16)], by go_num, by omega, ?_, own1, B1.out, siz1⟩
          show acc ++ [hByte (s[k].toNat / 16), hByte (s[k].toNat % 16)] = hexL (s.data.toList.take (k + 1))
          rw [HT.out, hexL_append, ← hacc.out]; simp [hexL]
        case measure => simp [intOf]; omega
    · have hks : k = s.size := by omega
      have hend : acc = hexL s.data.toList := by rw [hacc.out, hks, List.take_of_length_le (by simp)]
      have hcv := conv_own hown
      rw [hend] at hcv
      clear hend hks hacc
      go_wp2_with fail
      go_ret
      exact ⟨rfl, hbel.out⟩
end Go.Proofs.YtaniebkfgkhgoaaGreatDoor

namespace Go.Proofs
open Go.Shelf
def Tryz.lays137_ren : Go.Shelf.Ren := ⟨fun | 137 => 123 | 217 => 130 | 266 => 134 | n => n, fun | 9 => 9 | 5 => 5 | 3 => 3 | n => n, fun | n => n⟩
theorem Tryz.lays137 : Go.Proofs.Lays.n137 Tryz.prog Tryz.lays137_ren := {
  mixed := by kernel_rfl
  f137 := Tryz.func123.trans (congrArg some (by kernel_rfl))
  f217 := Tryz.func130.trans (congrArg some (by kernel_rfl))
  f266 := Tryz.func134.trans (congrArg some (by kernel_rfl))
  t3 := Tryz.underlying3
  a3 := Tryz.isAgg3
  z3 := Tryz.sizeOf3
  v3 := Tryz.zeroValue3
  t5 := Tryz.underlying5
  a5 := Tryz.isAgg5
  z5 := Tryz.sizeOf5
  v5 := Tryz.zeroValue5
  t9 := Tryz.underlying9
  a9 := Tryz.isAgg9
  z9 := Tryz.sizeOf9
  v9 := Tryz.zeroValue9 }
def Tryz.lays99_ren : Go.Shelf.Ren := ⟨fun | 99 => 94 | 206 => 112 | n => n, fun | 9 => 9 | 4 => 4 | 3 => 3 | n => n, fun | n => n⟩
theorem Tryz.lays99 : Go.Proofs.Lays.n99 Tryz.prog Tryz.lays99_ren := {
  mixed := by kernel_rfl
  f99 := Tryz.func94.trans (congrArg some (by kernel_rfl))
  f206 := Tryz.func112.trans (congrArg some (by kernel_rfl))
  t3 := Tryz.underlying3
  a3 := Tryz.isAgg3
  z3 := Tryz.sizeOf3
  v3 := Tryz.zeroValue3
  t4 := Tryz.underlying4
  a4 := Tryz.isAgg4
  z4 := Tryz.sizeOf4
  v4 := Tryz.zeroValue4
  t9 := Tryz.underlying9
  a9 := Tryz.isAgg9
  z9 := Tryz.sizeOf9
  v9 := Tryz.zeroValue9 }
def Tryz.lays152_ren : Go.Shelf.Ren := ⟨fun | 152 => 116 | 137 => 123 | 119 => 124 | 224 => 125 | 225 => 126 | 217 => 130 | 266 => 134 | n => n, fun | 9 => 9 | 21 => 21 | 3 => 3 | 4 => 4 | 5 => 5 | 0 => 0 | 46 => 147 | n => n, fun | n => n⟩
theorem Tryz.lays152 : Go.Proofs.Lays.n152 Tryz.prog Tryz.lays152_ren := {
  mixed := by kernel_rfl
  f119 := Tryz.func124.trans (congrArg some (by kernel_rfl))
  f137 := Tryz.func123.trans (congrArg some (by kernel_rfl))
  f152 := Tryz.func116.trans (congrArg some (by kernel_rfl))
  f217 := Tryz.func130.trans (congrArg some (by kernel_rfl))
  f224 := Tryz.func125.trans (congrArg some (by kernel_rfl))
  f225 := Tryz.func126.trans (congrArg some (by kernel_rfl))
  f266 := Tryz.func134.trans (congrArg some (by kernel_rfl))
  t0 := Tryz.underlying0
  a0 := Tryz.isAgg0
  z0 := Tryz.sizeOf0
  v0 := Tryz.zeroValue0
  t3 := Tryz.underlying3
  a3 := Tryz.isAgg3
  z3 := Tryz.sizeOf3
  v3 := Tryz.zeroValue3
  t4 := Tryz.underlying4
  a4 := Tryz.isAgg4
  z4 := Tryz.sizeOf4
  v4 := Tryz.zeroValue4
  t5 := Tryz.underlying5
  a5 := Tryz.isAgg5
  z5 := Tryz.sizeOf5
  v5 := Tryz.zeroValue5
  t9 := Tryz.underlying9
  a9 := Tryz.isAgg9
  z9 := Tryz.sizeOf9
  v9 := Tryz.zeroValue9
  t21 := Tryz.underlying21
  a21 := Tryz.isAgg21
  z21 := Tryz.sizeOf21
  v21 := Tryz.zeroValue21
  t46 := Tryz.underlying147
  a46 := Tryz.isAgg147
  z46 := Tryz.sizeOf147
  v46 := Tryz.zeroValue147 }
def Tryz.lays159_ren : Go.Shelf.Ren := ⟨fun | 159 => 133 | 165 => 136 | 166 => 77 | 167 => 98 | 169 => 29 | 230 => 137 | 204 => 138 | 240 => 97 | 241 => 139 | 197 => 110 | 118 => 140 | 168 => 118 | 270 => 141 | 262 => 142 | 276 => 115 | 277 => 143 | 260 => 120 | 242 => 127 | 313 => 144 | 278 => 131 | 274 => 145 | 275 => 146 | n => n, fun | 9 => 9 | 4 => 4 | 3 => 3 | 5 => 5 | 72 => 56 | 0 => 0 | 76 => 116 | 75 => 115 | 107 => 163 | 70 => 53 | 20 => 20 | 37 => 54 | 127 => 97 | 21 => 21 | 105 => 140 | 164 => 143 | 162 => 168 | 203 => 157 | 119 => 153 | 46 => 147 | 139 => 156 | 138 => 155 | 51 => 159 | 160 => 169 | 208 => 175 | 206 => 173 | 80 => 59 | n => n, fun | 13 => 4 | 3 => 2 | 4 => 3 | n => n⟩
theorem Tryz.lays159 : Go.Proofs.Lays.n159 Tryz.prog Tryz.lays159_ren := {
  mixed := by kernel_rfl
  f118 := Tryz.func140.trans (congrArg some (by kernel_rfl))
  f159 := Tryz.func133.trans (congrArg some (by kernel_rfl))
  f165 := Tryz.func136.trans (congrArg some (by kernel_rfl))
  f166 := Tryz.func77.trans (congrArg some (by kernel_rfl))
  f167 := Tryz.func98.trans (congrArg some (by kernel_rfl))
  f168 := Tryz.func118.trans (congrArg some (by kernel_rfl))
  f169 := Tryz.func29.trans (congrArg some (by kernel_rfl))
  f197 := Tryz.func110.trans (congrArg some (by kernel_rfl))
  f204 := Tryz.func138.trans (congrArg some (by kernel_rfl))
  f230 := Tryz.func137.trans (congrArg some (by kernel_rfl))
  f240 := Tryz.func97.trans (congrArg some (by kernel_rfl))
  f241 := Tryz.func139.trans (congrArg some (by kernel_rfl))
  f242 := Tryz.func127.trans (congrArg some (by kernel_rfl))
  f260 := Tryz.func120.trans (congrArg some (by kernel_rfl))
  f262 := Tryz.func142.trans (congrArg some (by kernel_rfl))
  f270 := Tryz.func141.trans (congrArg some (by kernel_rfl))
  f274 := Tryz.func145.trans (congrArg some (by kernel_rfl))
  f275 := Tryz.func146.trans (congrArg some (by kernel_rfl))
  f276 := Tryz.func115.trans (congrArg some (by kernel_rfl))
  f277 := Tryz.func143.trans (congrArg some (by kernel_rfl))
  f278 := Tryz.func131.trans (congrArg some (by kernel_rfl))
  f313 := Tryz.func144.trans (congrArg some (by kernel_rfl))
  t0 := Tryz.underlying0
  a0 := Tryz.isAgg0
  z0 := Tryz.sizeOf0
  v0 := Tryz.zeroValue0
  t3 := Tryz.underlying3
  a3 := Tryz.isAgg3
  z3 := Tryz.sizeOf3
  v3 := Tryz.zeroValue3
  t4 := Tryz.underlying4
  a4 := Tryz.isAgg4
  z4 := Tryz.sizeOf4
  v4 := Tryz.zeroValue4
  t5 := Tryz.underlying5
  a5 := Tryz.isAgg5
  z5 := Tryz.sizeOf5
  v5 := Tryz.zeroValue5
  t9 := Tryz.underlying9
  a9 := Tryz.isAgg9
  z9 := Tryz.sizeOf9
  v9 := Tryz.zeroValue9
  t20 := Tryz.underlying20
  a20 := Tryz.isAgg20
  z20 := Tryz.sizeOf20
  v20 := Tryz.zeroValue20
  t21 := Tryz.underlying21
  a21 := Tryz.isAgg21
  z21 := Tryz.sizeOf21
  v21 := Tryz.zeroValue21
  t37 := Tryz.underlying54
  a37 := Tryz.isAgg54
  z37 := Tryz.sizeOf54
  v37 := Tryz.zeroValue54
  t46 := Tryz.underlying147
  a46 := Tryz.isAgg147
  z46 := Tryz.sizeOf147
  v46 := Tryz.zeroValue147
  t51 := Tryz.underlying159
  a51 := Tryz.isAgg159
  z51 := Tryz.sizeOf159
  v51 := Tryz.zeroValue159
  t70 := Tryz.underlying53
  a70 := Tryz.isAgg53
  z70 := Tryz.sizeOf53
  v70 := Tryz.zeroValue53
  t72 := Tryz.underlying56
  a72 := Tryz.isAgg56
  z72 := Tryz.sizeOf56
  v72 := Tryz.zeroValue56
  t75 := Tryz.underlying115
  a75 := Tryz.isAgg115
  z75 := Tryz.sizeOf115
  v75 := Tryz.zeroValue115
  t76 := Tryz.underlying116
  a76 := Tryz.isAgg116
  z76 := Tryz.sizeOf116
  v76 := Tryz.zeroValue116
  t105 := Tryz.underlying140
  a105 := Tryz.isAgg140
  z105 := Tryz.sizeOf140
  v105 := Tryz.zeroValue140
  t107 := Tryz.underlying163
  a107 := Tryz.isAgg163
  z107 := Tryz.sizeOf163
  v107 := Tryz.zeroValue163
  t119 := Tryz.underlying153
  a119 := Tryz.isAgg153
  z119 := Tryz.sizeOf153
  t127 := Tryz.underlying97
  a127 := Tryz.isAgg97
  z127 := Tryz.sizeOf97
  v127 := Tryz.zeroValue97
  t138 := Tryz.underlying155
  a138 := Tryz.isAgg155
  z138 := Tryz.sizeOf155
  v138 := Tryz.zeroValue155
  t139 := Tryz.underlying156
  a139 := Tryz.isAgg156
  z139 := Tryz.sizeOf156
  v139 := Tryz.zeroValue156
  t160 := Tryz.underlying169
  a160 := Tryz.isAgg169
  z160 := Tryz.sizeOf169
  v160 := Tryz.zeroValue169
  t162 := Tryz.underlying168
  a162 := Tryz.isAgg168
  z162 := Tryz.sizeOf168
  v162 := Tryz.zeroValue168
  t164 := Tryz.underlying143
  a164 := Tryz.isAgg143
  z164 := Tryz.sizeOf143
  v164 := Tryz.zeroValue143
  t203 := Tryz.underlying157
  a203 := Tryz.isAgg157
  z203 := Tryz.sizeOf157
  v203 := Tryz.zeroValue157
  t206 := Tryz.underlying173
  a206 := Tryz.isAgg173
  z206 := Tryz.sizeOf173
  v206 := Tryz.zeroValue173
  t208 := Tryz.underlying175
  a208 := Tryz.isAgg175
  z208 := Tryz.sizeOf175
  v208 := Tryz.zeroValue175
  g3 := by kernel_rfl
  g4 := by kernel_rfl
  g13 := by kernel_rfl }
theorem Tryz.Builder_Extra_159 : Builder.Extra Tryz.prog Tryz.lays159_ren := {
  sizeBuilder := by kernel_rfl
  liesBuilder := by kernel_rfl
  t5 := Tryz.underlying5
  a5 := Tryz.isAgg5
  z5 := Tryz.sizeOf5
  v5 := Tryz.zeroValue5
  infoByte := by kernel_rfl
  cellsByte := by kernel_rfl
  sizeByte := by kernel_rfl
  neB5 := by decide }
open Go.RowKit in
theorem Tryz.strings_IndexByte (s : ByteArray) (c : Int) (w : World) :
    Calls Tryz.prog 123 #[.string s, .int .u8 c] w fun e w' => e = .returned (.int .i64 (Lib.indexByte s.data.toList c.toNat.toUInt8)) ∧ w' = w := Any.strings_IndexByte Tryz.lays137 s c w
open Go.RowKit in
theorem Tryz.strings_HasPrefix (s p : ByteArray) (w : World) :
    Calls Tryz.prog 94 #[.string s, .string p] w fun e w' => e = .returned (.bool (Lib.hasPrefix s.data.toList p.data.toList)) ∧ w' = w := Any.strings_HasPrefix Tryz.lays99 s p w
open Go.RowKit in
theorem Tryz.strings_IndexRune_ascii (s : ByteArray) (r : Int) (w : World) (h0 : 0 ≤ r) (h1 : r < 128) :
    Calls Tryz.prog 116 #[.string s, .int .i32 r] w fun e w' => e = .returned (.int .i64 (Lib.indexByte s.data.toList r.toNat.toUInt8)) ∧ w' = w := Any.strings_IndexRune_ascii Tryz.lays152 s r w h0 h1
open Go.RowKit Go.Lib in
theorem Tryz.strings_ToLower_any (s : ByteArray) (w : World) (hs : s.size < 35184372088832) (hV : CaseVar 4 caseA w) (hT : Lib.Utf8Tabs 2 3 w) :
    Calls Tryz.prog 133 #[.string s] w fun e w' => e = .returned (.string ⟨(Lib.toLowerD s.data.toList).toArray⟩) ∧ Below w.heap.size w w' := Any.strings_ToLower_any Tryz.lays159 Tryz.Builder_Extra_159 s w hs hV hT
end Go.Proofs

namespace Go.Proofs.YtaniebkfgkhgoaaGreatDoor
open Go.RowKit Go.Shelf
set_option linter.unusedVariables false

/-- The builder at b holds these bytes. -/
def Bd (b : Nat) (acc : List UInt8) (w : World) : Prop := Lib.IsBuilderF 56 5 b b (Lib.byteCells acc) w
/-- What a call that writes into the builder at b leaves as it was. -/
def Aft (b : Nat) (w w' : World) : Prop := Below b w w' ∧ Lib.OthersKept 5 (some b) w w'
theorem Aft.refl (b : Nat) (w : World) : Aft b w w := ⟨Below.refl _ _, Lib.OthersKept.refl _ _ _⟩
theorem Aft.trans {b : Nat} {u v w : World} (h : Aft b u v) (k : Aft b v w) : Aft b u w := ⟨h.1.trans k.1, h.2.trans k.2⟩
theorem others_of_below {e : TypeId} {b : Option Nat} {w w' : World} (h : Below w.heap.size w w') : Lib.OthersKept e b w w' := fun k o hk _ _ => by
  have hlt : k < w.heap.size := (Array.getElem?_eq_some_iff.1 hk).1
  rw [h.block k hlt]; exact hk
theorem below_low {B C : Nat} {w w' : World} (hB : B ≤ C) (h : Below C w w') : Below B w w' :=
  { os := h.os, output := h.output, tape := h.tape, size := h.size, block := fun k hk => h.block k (Nat.lt_of_lt_of_le hk hB) }
theorem Aft.of_below {b : Nat} {w w' : World} (hB : b ≤ w.heap.size) (h : Below w.heap.size w w') : Aft b w w' := ⟨below_low hB h, others_of_below h⟩
theorem Aft.size {b : Nat} {w w' : World} (h : Aft b w w') : w.heap.size ≤ w'.heap.size := h.1.size

theorem atF_below {T e : TypeId} {B b : Nat} {p : Value} {bs : List Value} {W W' : World} (h : Lib.BuilderAtF T e B b p bs W) (hb : Below W.heap.size W W') : Lib.BuilderAtF T e B b p bs W' := by
  obtain ⟨hB, v, hv, hown, hne⟩ := h
  have old : ∀ {k : Nat} {o : Obj}, W.heap[k]? = some o → W'.heap[k]? = some o := fun {k o} hk => by
    rw [hb.block k (Array.getElem?_eq_some_iff.1 hk).1]; exact hk
  refine ⟨hB, v, old hv, ⟨hown.1, ?_⟩, hne⟩
  rcases hown.2 with hn | ⟨g, cap, cur, fz, hv', hbg, hg, rest⟩
  · exact .inl hn
  · exact .inr ⟨g, cap, cur, fz, hv', hbg, old hg, rest⟩
theorem Bd.below {b : Nat} {acc : List UInt8} {W W' : World} (h : Bd b acc W) (hb : Below W.heap.size W W') : Bd b acc W' :=
  h.elim (fun x => .inl (atF_below x hb)) (fun x => .inr (atF_below x hb))
theorem Bd.iterAt {b : Nat} {acc : List UInt8} {w : World} (h : Bd b acc w) {k : Nat} {s : ByteArray} {pos : Nat} (hk : w.heap[k]? = some (.stringIter s pos)) (pos' : Nat) : Bd b acc (w.iterAt k s pos') := Lib.IsBuilderF.iterAt h hk pos'
theorem Bd.alloc {b : Nat} {acc : List UInt8} {w : World} (h : Bd b acc w) (o : Obj) : Bd b acc (w.alloc o) := Lib.IsBuilderF.alloc h o

theorem wByte (b : Nat) (acc : List UInt8) (d : UInt8) (c : Int) (hc : c = (d.toNat : Int)) (w : World) (h : Bd b acc w) (hlen : acc.length + 1 ≤ 140737488355328) (hBw : b ≤ w.heap.size) :
    Calls Tryz.prog 98 #[.pointer (some ⟨b, 0, none⟩), .int .u8 c] w fun e w' => e = .returned .nilIface ∧ Bd b (acc ++ [d]) w' ∧ Aft b w w' := by
  subst hc
  refine (Any.Builder_WriteByte_k (P := Tryz.prog) (ρ := Tryz.lays159_ren) { Tryz.lays159 with } Tryz.Builder_Extra_159 b b (Lib.byteCells acc) (d.toNat : Int) w h (by rw [Lib.byteCells_length]; exact hlen) hBw).mono ?_
  rintro e w' ⟨rfl, h1, b1, k1⟩
  refine ⟨rfl, ?_, b1, k1⟩
  unfold Bd
  rw [Lib.byteCells_append]
  exact Or.inr h1
theorem wString (b : Nat) (acc : List UInt8) (s : ByteArray) (w : World) (h : Bd b acc w) (hlen : acc.length + s.size ≤ 140737488355328) (hBw : b ≤ w.heap.size) :
    Calls Tryz.prog 77 #[.pointer (some ⟨b, 0, none⟩), .string s] w fun e w' => e = .returned (.tuple #[.int .i64 s.size, .nilIface]) ∧ Bd b (acc ++ s.data.toList) w' ∧ Aft b w w' := by
  refine (Any.Builder_WriteString_k (P := Tryz.prog) (ρ := Tryz.lays159_ren) { Tryz.lays159 with } Tryz.Builder_Extra_159 b b (Lib.byteCells acc) s w h (by rw [Lib.byteCells_length]; exact hlen) hBw).mono ?_
  rintro e w' ⟨rfl, h1, b1, k1⟩
  refine ⟨rfl, ?_, b1, k1⟩
  unfold Bd
  rw [Lib.byteCells_append]
  exact Or.inr h1
theorem wRune (b : Nat) (acc : List UInt8) (r : Int) (hr0 : -2147483648 ≤ r) (hr1 : r ≤ 2147483647) (w : World) (h : Bd b acc w) (hlen : acc.length + 4 ≤ 140737488355328) (hBw : b ≤ w.heap.size) :
    Calls Tryz.prog 118 #[.pointer (some ⟨b, 0, none⟩), .int .i32 r] w fun e w' => (∃ n : Int, e = .returned (.tuple #[.int .i64 n, .nilIface])) ∧ Bd b (acc ++ Lib.encodeRune r) w' ∧ Aft b w w' := by
  refine (Any.Builder_WriteRune_k (P := Tryz.prog) (ρ := Tryz.lays159_ren) { Tryz.lays159 with } Tryz.Builder_Extra_159 b b (Lib.byteCells acc) r hr0 hr1 w h (by rw [Lib.byteCells_length]; exact hlen) hBw).mono ?_
  rintro e w' ⟨rfl, h1, b1, k1⟩
  refine ⟨⟨_, rfl⟩, ?_, b1, k1⟩
  unfold Bd
  rw [Lib.byteCells_append, Lib.byteCells_encodeRune]
  exact Or.inr h1
theorem bString (b : Nat) (acc : List UInt8) (w : World) (h : Bd b acc w) (hBw : b ≤ w.heap.size) :
    Calls Tryz.prog 29 #[.pointer (some ⟨b, 0, none⟩)] w fun e w' => e = .returned (.string ⟨acc.toArray⟩) ∧ Aft b w w' := by
  refine (Any.Builder_String_any_k (P := Tryz.prog) (ρ := Tryz.lays159_ren) { Tryz.lays159 with } Tryz.Builder_Extra_159 b b acc w h hBw).mono ?_
  rintro e w' ⟨rfl, h1, b1, k1⟩
  exact ⟨rfl, b1, k1⟩
theorem fresh_Bd (w : World) : Bd w.heap.size [] (w.alloc (.cells #[.pointer none, .slice none 0 0] 56)) := Lib.IsBuilderF.of (Lib.fresh_isBuilder 56 5 w)
end Go.Proofs.YtaniebkfgkhgoaaGreatDoor

namespace Go.Proofs
open Go.Shelf
def Tryz.lays170_ren : Go.Shelf.Ren := ⟨fun | 170 => 76 | n => n, fun | 70 => 53 | 3 => 3 | 0 => 0 | 72 => 56 | 37 => 54 | 5 => 5 | n => n, fun | n => n⟩
theorem Tryz.lays170 : Go.Proofs.Lays.n170 Tryz.prog Tryz.lays170_ren := {
  mixed := by kernel_rfl
  f170 := Tryz.func76.trans (congrArg some (by kernel_rfl))
  t0 := Tryz.underlying0
  a0 := Tryz.isAgg0
  z0 := Tryz.sizeOf0
  v0 := Tryz.zeroValue0
  t3 := Tryz.underlying3
  a3 := Tryz.isAgg3
  z3 := Tryz.sizeOf3
  v3 := Tryz.zeroValue3
  t37 := Tryz.underlying54
  a37 := Tryz.isAgg54
  z37 := Tryz.sizeOf54
  v37 := Tryz.zeroValue54
  t70 := Tryz.underlying53
  a70 := Tryz.isAgg53
  z70 := Tryz.sizeOf53
  v70 := Tryz.zeroValue53
  t72 := Tryz.underlying56
  a72 := Tryz.isAgg56
  z72 := Tryz.sizeOf56
  v72 := Tryz.zeroValue56 }
def Tryz.lays161_ren : Go.Shelf.Ren := ⟨fun | 161 => 67 | 231 => 90 | 227 => 91 | 233 => 92 | 235 => 93 | 228 => 109 | 197 => 110 | 151 => 111 | 260 => 120 | 152 => 116 | 137 => 123 | 119 => 124 | 224 => 125 | 225 => 126 | 217 => 130 | 266 => 134 | n => n, fun | 9 => 9 | 4 => 4 | 3 => 3 | 5 => 5 | 117 => 127 | 116 => 126 | 0 => 0 | 124 => 130 | 105 => 140 | 21 => 21 | 119 => 153 | 46 => 147 | 139 => 156 | 138 => 155 | n => n, fun | 3 => 2 | 4 => 3 | n => n⟩
theorem Tryz.lays161 : Go.Proofs.Lays.n161 Tryz.prog Tryz.lays161_ren := {
  mixed := by kernel_rfl
  f119 := Tryz.func124.trans (congrArg some (by kernel_rfl))
  f137 := Tryz.func123.trans (congrArg some (by kernel_rfl))
  f151 := Tryz.func111.trans (congrArg some (by kernel_rfl))
  f152 := Tryz.func116.trans (congrArg some (by kernel_rfl))
  f161 := Tryz.func67.trans (congrArg some (by kernel_rfl))
  f197 := Tryz.func110.trans (congrArg some (by kernel_rfl))
  f217 := Tryz.func130.trans (congrArg some (by kernel_rfl))
  f224 := Tryz.func125.trans (congrArg some (by kernel_rfl))
  f225 := Tryz.func126.trans (congrArg some (by kernel_rfl))
  f227 := Tryz.func91.trans (congrArg some (by kernel_rfl))
  f228 := Tryz.func109.trans (congrArg some (by kernel_rfl))
  f231 := Tryz.func90.trans (congrArg some (by kernel_rfl))
  f233 := Tryz.func92.trans (congrArg some (by kernel_rfl))
  f235 := Tryz.func93.trans (congrArg some (by kernel_rfl))
  f260 := Tryz.func120.trans (congrArg some (by kernel_rfl))
  f266 := Tryz.func134.trans (congrArg some (by kernel_rfl))
  t0 := Tryz.underlying0
  a0 := Tryz.isAgg0
  z0 := Tryz.sizeOf0
  v0 := Tryz.zeroValue0
  t3 := Tryz.underlying3
  a3 := Tryz.isAgg3
  z3 := Tryz.sizeOf3
  v3 := Tryz.zeroValue3
  t4 := Tryz.underlying4
  a4 := Tryz.isAgg4
  z4 := Tryz.sizeOf4
  v4 := Tryz.zeroValue4
  t5 := Tryz.underlying5
  a5 := Tryz.isAgg5
  z5 := Tryz.sizeOf5
  v5 := Tryz.zeroValue5
  t9 := Tryz.underlying9
  a9 := Tryz.isAgg9
  z9 := Tryz.sizeOf9
  v9 := Tryz.zeroValue9
  t21 := Tryz.underlying21
  a21 := Tryz.isAgg21
  z21 := Tryz.sizeOf21
  v21 := Tryz.zeroValue21
  t46 := Tryz.underlying147
  a46 := Tryz.isAgg147
  z46 := Tryz.sizeOf147
  v46 := Tryz.zeroValue147
  t105 := Tryz.underlying140
  a105 := Tryz.isAgg140
  z105 := Tryz.sizeOf140
  v105 := Tryz.zeroValue140
  t116 := Tryz.underlying126
  a116 := Tryz.isAgg126
  z116 := Tryz.sizeOf126
  t117 := Tryz.underlying127
  a117 := Tryz.isAgg127
  z117 := Tryz.sizeOf127
  v117 := Tryz.zeroValue127
  t119 := Tryz.underlying153
  a119 := Tryz.isAgg153
  z119 := Tryz.sizeOf153
  t124 := Tryz.underlying130
  a124 := Tryz.isAgg130
  z124 := Tryz.sizeOf130
  v124 := Tryz.zeroValue130
  t138 := Tryz.underlying155
  a138 := Tryz.isAgg155
  z138 := Tryz.sizeOf155
  v138 := Tryz.zeroValue155
  t139 := Tryz.underlying156
  a139 := Tryz.isAgg156
  z139 := Tryz.sizeOf156
  v139 := Tryz.zeroValue156
  g3 := by kernel_rfl
  g4 := by kernel_rfl }
def Tryz.lays106_ren : Go.Shelf.Ren := ⟨fun | 106 => 66 | 213 => 89 | 265 => 108 | n => n, fun | 9 => 9 | 3 => 3 | n => n, fun | n => n⟩
theorem Tryz.lays106 : Go.Proofs.Lays.n106 Tryz.prog Tryz.lays106_ren := {
  mixed := by kernel_rfl
  f106 := Tryz.func66.trans (congrArg some (by kernel_rfl))
  f213 := Tryz.func89.trans (congrArg some (by kernel_rfl))
  f265 := Tryz.func108.trans (congrArg some (by kernel_rfl))
  t3 := Tryz.underlying3
  a3 := Tryz.isAgg3
  z3 := Tryz.sizeOf3
  v3 := Tryz.zeroValue3
  t9 := Tryz.underlying9
  a9 := Tryz.isAgg9
  z9 := Tryz.sizeOf9
  v9 := Tryz.zeroValue9 }
theorem Tryz.strings_Compare (a b : ByteArray) (w : World) :
    Calls Tryz.prog 66 #[.string a, .string b] w fun e w' => e = .returned (.int .i64 (Lib.compareBytes a.data.toList b.data.toList)) ∧ w' = w := Any.strings_Compare Tryz.lays106 a b w
def Tryz.lays103_ren : Go.Shelf.Ren := ⟨fun | 103 => 82 | 210 => 103 | 206 => 112 | n => n, fun | 9 => 9 | 4 => 4 | 24 => 60 | 3 => 3 | n => n, fun | n => n⟩
theorem Tryz.lays103 : Go.Proofs.Lays.n103 Tryz.prog Tryz.lays103_ren := {
  mixed := by kernel_rfl
  f103 := Tryz.func82.trans (congrArg some (by kernel_rfl))
  f206 := Tryz.func112.trans (congrArg some (by kernel_rfl))
  f210 := Tryz.func103.trans (congrArg some (by kernel_rfl))
  t3 := Tryz.underlying3
  a3 := Tryz.isAgg3
  z3 := Tryz.sizeOf3
  v3 := Tryz.zeroValue3
  t4 := Tryz.underlying4
  a4 := Tryz.isAgg4
  z4 := Tryz.sizeOf4
  v4 := Tryz.zeroValue4
  t9 := Tryz.underlying9
  a9 := Tryz.isAgg9
  z9 := Tryz.sizeOf9
  v9 := Tryz.zeroValue9
  t24 := Tryz.underlying60
  a24 := Tryz.isAgg60
  z24 := Tryz.sizeOf60
  v24 := Tryz.zeroValue60 }
theorem Tryz.strings_CutPrefix (s p : ByteArray) (w : World) :
    Calls Tryz.prog 82 #[.string s, .string p] w fun e w' => e = .returned (.tuple #[.string ⟨(Lib.trimPrefix s.data.toList p.data.toList).toArray⟩, .bool (Lib.hasPrefix s.data.toList p.data.toList)]) ∧ w' = w := Any.strings_CutPrefix Tryz.lays103 s p w
def Tryz.lays101_ren : Go.Shelf.Ren := ⟨fun | 101 => 81 | 208 => 102 | 206 => 112 | n => n, fun | 9 => 9 | 4 => 4 | 3 => 3 | n => n, fun | n => n⟩
theorem Tryz.lays101 : Go.Proofs.Lays.n101 Tryz.prog Tryz.lays101_ren := {
  mixed := by kernel_rfl
  f101 := Tryz.func81.trans (congrArg some (by kernel_rfl))
  f206 := Tryz.func112.trans (congrArg some (by kernel_rfl))
  f208 := Tryz.func102.trans (congrArg some (by kernel_rfl))
  t3 := Tryz.underlying3
  a3 := Tryz.isAgg3
  z3 := Tryz.sizeOf3
  v3 := Tryz.zeroValue3
  t4 := Tryz.underlying4
  a4 := Tryz.isAgg4
  z4 := Tryz.sizeOf4
  v4 := Tryz.zeroValue4
  t9 := Tryz.underlying9
  a9 := Tryz.isAgg9
  z9 := Tryz.sizeOf9
  v9 := Tryz.zeroValue9 }
theorem Tryz.strings_TrimPrefix (s p : ByteArray) (w : World) :
    Calls Tryz.prog 81 #[.string s, .string p] w fun e w' => e = .returned (.string ⟨(Lib.trimPrefix s.data.toList p.data.toList).toArray⟩) ∧ w' = w := Any.strings_TrimPrefix Tryz.lays101 s p w

namespace YtaniebkfgkhgoaaGreatDoor
open Go.RowKit
/-- strings.TrimLeft at a short cutset of ASCII. -/
theorem trim_any (s cs : ByteArray) (w : World) (hcs : cs.size < 4294967281) (ha : cs.data.toList.all (fun b => decide (b.toNat < 128)) = true) :
    Calls Tryz.prog 67 #[.string s, .string cs] w fun e w' => e = .returned (.string ⟨(Lib.trimLeftS s.data.toList cs.data.toList).toArray⟩) ∧ Below w.heap.size w w' :=
  Any.strings_TrimLeft_laid (ρ := Tryz.lays161_ren) Tryz.lays161 (by kernel_rfl) s cs w hcs (ascii_of_all ha)
theorem cutPrefix_any (s p : ByteArray) (w : World) : Calls Tryz.prog 82 #[.string s, .string p] w fun e w' => e = .returned (.tuple #[.string ⟨(Lib.trimPrefix s.data.toList p.data.toList).toArray⟩, .bool (Lib.hasPrefix s.data.toList p.data.toList)]) ∧ w = w' :=
  (Tryz.strings_CutPrefix s p w).mono fun _ _ ⟨h, k⟩ => ⟨h, k.symm⟩
theorem trimPrefix_any (s p : ByteArray) (w : World) : Calls Tryz.prog 81 #[.string s, .string p] w fun e w' => e = .returned (.string ⟨(Lib.trimPrefix s.data.toList p.data.toList).toArray⟩) ∧ w = w' :=
  (Tryz.strings_TrimPrefix s p w).mono fun _ _ ⟨h, k⟩ => ⟨h, k.symm⟩
theorem hasPrefix_any (s p : ByteArray) (w : World) : Calls Tryz.prog 94 #[.string s, .string p] w fun e w' => e = .returned (.bool (Lib.hasPrefix s.data.toList p.data.toList)) ∧ w = w' :=
  (Tryz.strings_HasPrefix s p w).mono fun _ _ ⟨h, k⟩ => ⟨h, k.symm⟩
theorem compare_any (a b : ByteArray) (w : World) : Calls Tryz.prog 66 #[.string a, .string b] w fun e w' => e = .returned (.int .i64 (Lib.compareBytes a.data.toList b.data.toList)) ∧ w = w' :=
  (Tryz.strings_Compare a b w).mono fun _ _ ⟨h, k⟩ => ⟨h, k.symm⟩
theorem bLen (b : Nat) (acc : List UInt8) (w : World) (h : Bd b acc w) : Calls Tryz.prog 76 #[.pointer (some ⟨b, 0, none⟩)] w fun e w' => e = .returned (.int .i64 acc.length) ∧ w = w' := by
  refine (Any.Builder_Len_f Tryz.lays170 b b (Lib.byteCells acc) w h).mono ?_
  rintro e w' ⟨rfl, rfl⟩
  exact ⟨by rw [Lib.byteCells_length], rfl⟩
end YtaniebkfgkhgoaaGreatDoor
end Go.Proofs

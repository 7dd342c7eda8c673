/- Contract of the program's Hex. -/
import Derived.Test.YtgfpmjdkjflibaaDigH
import Derived.Deep.RegionHeld3
import Derived.Deep.AppendLies
import Derived.OwnWalk
namespace Go.Proofs.Ytgfpmjdkjflibaa
open Go.RowKit
set_option linter.unusedVariables false

theorem make_room (n : Nat) (hn : n ≤ 281474976710656) (i : Int) (hi : i = (n : Int)) (w : World) :
    (Instr.makeSlice 39 (.int .i64 0) (.int .i64 i)).run Try.prog w = .ok (.slice (some ⟨w.heap.size, 0, none⟩) 0 n) (w.alloc (.cells (madeCells #[.int .u8 0] n) 5)) := by
  subst hi
  obtain ⟨i0, h1, h2, h3, h4⟩ := info_parts info8
  have := run_make (P := Try.prog) w 39 5 i0 (.int .u8 0) Try.underlying39 h1 h2 .i64 .i64 0 n (by omega) (by omega) (by rw [h4]; omega) (by omega)
  rw [h3, show (Value.int IntKind.u8 0).cells = #[.int .u8 0] from rfl] at this
  simpa using this

theorem tab_at (n : Nat) (hn : n < 16) (h : n < (⟨#[48, 49, 50, 51, 52, 53, 54, 55, 56, 57, 97, 98, 99, 100, 101, 102]⟩ : ByteArray).size) :
    (((⟨#[48, 49, 50, 51, 52, 53, 54, 55, 56, 57, 97, 98, 99, 100, 101, 102]⟩ : ByteArray)[n]'h).toNat : Int) = ((hByte n).toNat : Int) := by
  rcases n with _ | _ | _ | _ | _ | _ | _ | _ | _ | _ | _ | _ | _ | _ | _ | _ | n
  all_goals first | rfl | omega

/-- What an append of two bytes leaves. -/
theorem own_snoc2 {w wr w1 : World} {B : Nat} {v v' : Value} {l : List UInt8} {d1 d2 : UInt8} {x1 x2 : Int} {o : Obj} (hx1 : x1 = (d1.toNat : Int)) (hx2 : x2 = (d2.toNat : Int)) (hB : B ≤ wr.heap.size) (hbel : Below B w wr)
    (hown : wr.ownsRow B 5 1 v l.length (cellsOf l)) (hown' : w1.ownsRow B 5 1 v' (l.length + 2) (cellsOf l ++ [.int .u8 x1, .int .u8 x2])) (hgrow : (wr.alloc o).drew.grownBy w1 v.ownBlock) :
    w1.ownsRow B 5 1 v' (l ++ [d1, d2]).length (cellsOf (l ++ [d1, d2])) ∧ Below B w w1 ∧ B ≤ w1.heap.size := by
  subst hx1 hx2
  have hb := ((hbel.alloc hB o).drew).grown hgrow (by show B ≤ (wr.alloc o).heap.size; simp; omega) (fun k hk => (hown.lt k hk).1)
  have e : cellsOf (l ++ [d1, d2]) = cellsOf l ++ [.int .u8 (d1.toNat : Int), .int .u8 (d2.toNat : Int)] := by simp [cellsOf]
  refine ⟨by rw [e]; simpa using hown', hb, ?_⟩
  have h1 : (wr.alloc o).heap.size ≤ w1.heap.size := hgrow.size
  simp at h1; omega

theorem hex_any (s : ByteArray) (w : World) (hs : s.size ≤ 1099511627776) :
    Calls Try.prog 18 #[.string s] w fun e w' => e = .returned (.string ⟨(hexL s.data.toList).toArray⟩) ∧ Below w.heap.size w w' := by
  obtain ⟨i0, hi, hz0, hz1, hz2⟩ := info_parts info8
  have hmk := fun w0 : World => make_room (2 * s.size) (by omega) (2 * (s.size : Int)) (by omega) w0
  go_enter Try.func18, Try.ntmps18
  go_wp2_with fail
  go_loopw [3, 11] (fun v i wr => ∃ (k : Nat) (acc : List UInt8), i = .int .i64 k ∧ k ≤ s.size ∧ Hid (acc = hexL (s.data.toList.take k)) ∧ wr.ownsRow w.heap.size 5 1 v acc.length (cellsOf acc) ∧ Hid (Below w.heap.size w wr) ∧ w.heap.size ≤ wr.heap.size) (fun _ i _ => s.size - (intOf i).toNat)
  case atStart => exact ⟨0, [], rfl, Nat.zero_le _, rfl, World.ownsRow_made w _ _ (Nat.le_refl _) (by unfold maxLen; omega) (by rw [size_madeCells]; omega), (Below.refl _ _).alloc (Nat.le_refl _) _, by simp⟩
  case round =>
    obtain ⟨k, acc, rfl, hk, hacc, hown, hbel, hsize⟩ := hrel
    by_cases hlt : k < s.size
    · have b1 : (s[k].toNat : Int) ≤ 255 := by have := UInt8.toNat_lt s[k]; omega
      have b0 : 0 ≤ (s[k].toNat : Int) := by omega
      have hki : (0 : Int) ≤ (k : Int) := by omega
      have hki2 : (k : Int) < (s.size : Int) := by omega
      have hal : acc.length ≤ 2 * k := by rw [hacc.out, hexL_length]; simp; omega
      have hand := u8_and15 (x := (s[k].toNat : Int)) b0 (by omega)
      have h15 : (0 : Int) ≤ (s[k].toNat : Int) % 16 := by omega
      have h15' : (s[k].toNat : Int) % 16 < 16 := by omega
      go_wp2_with fail
      go_region_held3 (fun w' => True) (trivial) (first | (refine step_append_lies _ (by rfl) _ _ _ (by rfl) w.heap.size 5 i0 _ 1 1 Try.underlying39 hi hz0 hz1 hz2 rfl (by omega) u3 acc.length (cellsOf acc) (by rfl) ((hown.alloc _).drew) ⟨wr.heap.size, 0, none⟩ 2 2 [.int .u8 _, .int .u8 _] (by rfl) (by rfl) (World.news_of_block (cs := #[.int .u8 _, .int .u8 _]) (t := 5) (fr := (0, 0)) (heap_alloc_new wr _)) (by simp [Value.oneCell']) (by omega) (by unfold maxLen; omega) (by omega) (by simp; omega) (wr.heap.size + 1) (by simp) ?_; intro gg cap w1 hown1 hgrow hat hltt))
      all_goals
        have hx1 := tab_at ((s[k].toNat : Int) / 16).toNat (by omega) (by show _ < 16; omega)
        have hx2 := tab_at ((s[k].toNat : Int) % 16).toNat (by omega) (by show _ < 16; omega)
        obtain ⟨own1, bel1, siz1⟩ := own_snoc2 (hx1.trans (by congr 3)) (hx2.trans (by congr 3)) hsize hbel.out hown hown1 hgrow
        have B1 := Lib.hid bel1
        have HT := Lib.hid (take_snoc s k hlt)
        clear hx1 hx2 hown1 hgrow hown bel1
        go_wp2_with fail
        go_roundw
        case rel =>
          refine ⟨k + 1, acc ++ [hByte (s[k].toNat / 16), hByte (s[k].toNat % 16)], by go_num, by omega, ?_, own1, B1.out, siz1⟩
          show acc ++ [hByte (s[k].toNat / 16), hByte (s[k].toNat % 16)] = hexL (s.data.toList.take (k + 1))
          rw [HT.out, hexL_append, ← hacc.out]; simp [hexL]
        case measure => simp [intOf]; omega
    · have hks : k = s.size := by omega
      have hend : acc = hexL s.data.toList := by rw [hacc.out, hks, List.take_of_length_le (by simp)]
      have hcv := conv_own hown
      rw [hend] at hcv
      clear hend hks hacc
      go_wp2_with fail
      go_ret
      exact ⟨rfl, hbel.out⟩
end Go.Proofs.Ytgfpmjdkjflibaa

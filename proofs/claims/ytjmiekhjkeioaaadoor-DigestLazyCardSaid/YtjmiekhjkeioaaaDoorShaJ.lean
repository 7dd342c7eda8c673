/- The contract of the reference's whole: a text with what stands behind it. -/
import Derived.Test.YtjmiekhjkeioaaaDoorShaI
import Derived.Test.YtjmiekhjkeioaaaDoorKeeps
import Derived.Test.YtjmiekhjkeioaaaDoorShaQ
import Derived.Laws.AppendOwn
import Derived.Lib.OthersKept
namespace Go.Proofs.YtjmiekhjkeioaaaDoor
open Go.RowKit
set_option linter.unusedVariables false

theorem infoU8 : (Tryd.prog.info? 5).map (fun i => (i.zero, i.size, i.bytes)) = some (some (.int .u8 0), 1, 1) := by kernel_rfl

/-- The text's bytes and m bytes of the padding have been appended. -/
def Wh (w : World) (s : ByteArray) (wr : World) (v : Value) (m : Nat) : Prop :=
  Onto (Lib.bytesWorld w 5 s) 5 1 (some ⟨w.heap.size, 0, none⟩) w.heap.size 0 s.size (grownCap w s.size 0 5) (s.data.toList.map byteV) wr v m ((padP s.size m).map byteV)
theorem Wh.next {w : World} {s : ByteArray} {wr : World} {v : Value} {m : Nat} {x : Int} (hx : x = ((padB s.size (padSize s.size) m).toNat : Int))
    (h : Onto (Lib.bytesWorld w 5 s) 5 1 (some ⟨w.heap.size, 0, none⟩) w.heap.size 0 s.size (grownCap w s.size 0 5) (s.data.toList.map byteV) wr v (m + 1) ((padP s.size m).map byteV ++ [.int .u8 x])) : Wh w s wr v (m + 1) := by
  unfold Wh
  rw [padP_succ, List.map_append]
  subst hx
  exact h
/-- Its value is written out. -/
theorem Wh.value {w : World} {s : ByteArray} {wr : World} {v : Value} {m : Nat} (h : Wh w s wr v m) (hs : s.size ≤ maxLen) (hm : 0 < m) :
    ∃ g o cap, v = .slice (some ⟨g, o, none⟩) (s.size + m) cap ∧ ∀ j, j < s.size + m → wr.cell? ⟨g, o + j, none⟩ = ((s.data.toList ++ padP s.size m)[j]?).map byteV := by
  obtain ⟨g, o, cap, h1, _, _, h2⟩ := Onto.value h (came_bytes w s hs) (grownCap_le_maxLen _ _ _ _ hs) (Or.inr hm)
  refine ⟨g, o, cap, h1, fun j hj => ?_⟩
  rw [h2 j (by omega), ← List.map_append, List.getElem?_map]
theorem Wh.keeps {w : World} {s : ByteArray} {wr : World} {v : Value} {m : Nat} (h : Wh w s wr v m) : Keeps w wr :=
  (keeps_bytes w s).of_keptBut h.kept (fun p ⟨_, _, _, e⟩ => by rw [e]; exact Nat.le_refl _)
def slen : Value → Nat | .slice _ n _ => n | _ => 0
theorem one_newS (w : World) (x : Value) (T : Nat) : ∀ (j : Nat) (u : Value), [x][j]? = some u → (w.alloc (.cells #[x] T)).cell? ((⟨w.heap.size, 0, none⟩ : Addr).add j) = some u := by
  intro j u hj
  cases j with
  | zero =>
    simp at hj; subst hj
    rw [show (⟨w.heap.size, 0, none⟩ : Addr).add 0 = ⟨w.heap.size, 0, none⟩ from rfl, cell_of_row _ _ 0 #[x] T (0, 0) (heap_alloc_last _ _)]
    rfl
  | succ j => simp at hj

/-- The slice is turned into the padded text. -/
theorem Wh.conv {w : World} {s : ByteArray} {wr : World} {g o cap m : Nat} (h : Wh w s wr (.slice (some ⟨g, o, none⟩) (s.size + m) cap) m) (hs : s.size ≤ maxLen) (hm : 0 < m) (hz : m = padSize s.size) :
    (convert 52 9 (.slice (some ⟨g, o, none⟩) (s.size + m) cap)).run Tryd.prog wr = .ok (.string ⟨(padded s.data.toList).toArray⟩) wr := by
  obtain ⟨g', o', cap', e, hc⟩ := h.value hs hm
  obtain ⟨e1, -, e2⟩ := Value.slice.inj e
  obtain ⟨rfl, rfl⟩ : g = g' ∧ o = o' := by simpa using e1
  have el : s.data.toList ++ padP s.size m = padded s.data.toList := by
    unfold padded; rw [hz, padP_all, size_toList]
  rw [el] at hc
  have hl : (padded s.data.toList).length = s.size + m := by rw [← el, List.length_append, padP_len, size_toList]
  have := run_convert_bytes_arg (P := Tryd.prog) wr 52 5 Tryd.underlying52 Tryd.underlying5 g o (s.size + m) cap ((padded s.data.toList).map fun b => (b.toNat : Int)) (by simp [hl])
    (fun i hi => by
      rw [hc i hi, List.getElem?_eq_getElem (by omega)]
      simp [byteV, List.getElem?_eq_getElem (show i < (padded s.data.toList).length by omega)]) 9 Tryd.underlying9
  rw [Lib.Lz.strOfNums_map] at this
  exact this

set_option maxRecDepth 100000 in
theorem whole_any (s : ByteArray) (w : World) (hlen : s.data.toList.length ≤ 900000) :
    Calls Tryd.prog 30 #[.string s] w fun e w' => e = .returned (.string ⟨(padded s.data.toList).toArray⟩) ∧ Keeps w w' := by
  have hz : s.size ≤ 900000 := by rw [size_toList]; exact hlen
  have hm : s.size ≤ maxLen := by unfold maxLen; omega
  have hcv := fun w0 => Lib.run_convert_string_bytes (P := Tryd.prog) w0 9 52 5 s Tryd.underlying9 Tryd.underlying52 Tryd.underlying5
  have hc := Lib.hid (came_bytes w s hm)
  have HO := Lib.hid (Onto.start (e := 5) hc.out)
  obtain ⟨i0, hi, hz0, hz1, hz2⟩ := info_parts infoU8
  go_enter Tryd.func30, Tryd.ntmps30
  go_wp2_with (at_builtin; refine wpList_append_onto _ rfl (.tmp 8) (.tmp 9) 52 rfl hc.out i0 (.int .u8 0) 1 Tryd.underlying52 hi hz0 hz1 hz2 rfl (by decide) rfl (HO.out.alloc hc.out _) ⟨(Lib.bytesWorld w 5 s).heap.size, 0, none⟩ 1 [.int .u8 128] rfl rfl (one_newS _ _ _) (by intro u hu; simp at hu; subst hu; rfl) ?b1 ?b2 ?_)
  case b1 => unfold maxLen; omega
  case b2 => omega
  intro v1 w1 h1
  have H1 := Lib.hid (show Wh w s w1 v1 1 from Wh.next (m := 0) (by rw [padB_zero]; rfl) h1)
  clear h1 HO hcv
  obtain ⟨g1, o1, cap1, rfl, -⟩ := H1.out.value hm (by omega)
  obtain ⟨Z, hZ⟩ : ∃ Z, Z = padSize s.size := ⟨_, rfl⟩
  have hzb := padSize_bounds s.size
  rw [← hZ] at hzb
  obtain ⟨hz9, hz72, hz64⟩ := hzb
  have HZ := Lib.hid hZ
  have HM := Lib.hid hz64
  clear hZ hz64
  go_wp2_with fail
  go_loopw [3] (fun v wr => ∃ m g o cap : Nat, 1 ≤ m ∧ m ≤ Z - 8 ∧ v = .slice (some ⟨g, o, none⟩) (s.size + m) cap ∧ Hid (Wh w s wr v m)) (fun v _ => s.size + Z - slen v)
  case atStart => exact ⟨1, g1, o1, cap1, by omega, by omega, rfl, H1⟩
  case round =>
    obtain ⟨m, g, o, cap, hm1, hm2, rfl, HW⟩ := hrel
    clear H1
    by_cases hmz : m < Z - 8
    · have ht : ((((s.size : Int) + (m : Int)) % 64 == 56)) = false := by have := HM.out; simp; omega
      have ht2 : ((((s.size : Int) + (m : Int)) % 64 != 56)) = true := by have := HM.out; simp; omega
      go_wp2_with (at_builtin; refine wpList_append_onto _ rfl (.tmp 15) (.tmp 16) 52 rfl hc.out i0 (.int .u8 0) 1 Tryd.underlying52 hi hz0 hz1 hz2 rfl (by decide) rfl (HW.out.alloc hc.out _) ⟨wr.heap.size, 0, none⟩ 1 [.int .u8 0] rfl rfl (one_newS _ _ _) (by intro u hu; simp at hu; subst hu; rfl) ?b1 ?b2 ?_)
      case b1 => unfold maxLen; omega
      case b2 => omega
      intro v2 w2 h2
      have H2 := Lib.hid (Wh.next (by rw [padB_mid _ _ hm1 (by rw [← HZ.out]; exact hmz)]; rfl) h2)
      clear h2 ht ht2 HW
      obtain ⟨g2, o2, cap2, rfl, -⟩ := H2.out.value hm (by omega)
      go_wp2_with fail
      go_roundw
      case rel => exact ⟨m + 1, g2, o2, cap2, by omega, by omega, rfl, H2⟩
      case measure => show s.size + Z - (s.size + (m + 1)) < s.size + Z - (s.size + m); omega
    · have ht : ((((s.size : Int) + (m : Int)) % 64 == 56)) = true := by have := HM.out; simp; omega
      have ht2 : ((((s.size : Int) + (m : Int)) % 64 != 56)) = false := by have := HM.out; simp; omega
      have HMZ := Lib.hid (show m = Z - 8 by omega)
      go_wp2_with fail
      clear ht ht2
      go_loopw [3, 5] (fun v i wr => ∃ m g o cap : Nat, Z - 8 ≤ m ∧ m ≤ Z ∧ i = .int .i64 ((Z : Int) - 1 - (m : Int)) ∧ v = .slice (some ⟨g, o, none⟩) (s.size + m) cap ∧ Hid (Wh w s wr v m)) (fun v _ _ => s.size + Z - slen v)
      case atStart => exact ⟨m, g, o, cap, by omega, by omega, by have := HMZ.out; go_num, rfl, HW⟩
      case round =>
        clear HW
        obtain ⟨m, g, o, cap, hm1, hm2, rfl, rfl, HW⟩ := hrel
        by_cases hmz : m < Z
        · go_wp2_with (at_builtin; refine wpList_append_onto _ rfl (.tmp 26) (.tmp 32) 52 rfl hc.out i0 (.int .u8 0) 1 Tryd.underlying52 hi hz0 hz1 hz2 rfl (by decide) rfl (HW.out.alloc hc.out _) ⟨wr.heap.size, 0, none⟩ 1 [.int .u8 ((s.size : Int) * 8 / 2 ^ (8 * (Z - 1 - m)) % 256)] rfl rfl (one_newS _ _ _) (by intro u hu; simp at hu; subst hu; rfl) ?b1 ?b2 ?_)
          case b1 => unfold maxLen; omega
          case b2 => omega
          intro v2 w2 h2
          have H2 := Lib.hid (Wh.next (by have := padB_end s.size (Z - 1 - m) (by omega); rw [← this, ← HZ.out, show Z - 1 - (Z - 1 - m) = m by omega]) h2)
          clear h2 HW
          obtain ⟨g2, o2, cap2, rfl, -⟩ := H2.out.value hm (by omega)
          go_wp2_with fail
          go_roundw
          case rel => exact ⟨m + 1, g2, o2, cap2, by omega, by omega, by go_num, rfl, H2⟩
          case measure => show s.size + Z - (s.size + (m + 1)) < s.size + Z - (s.size + m); omega
        · have hcs := HW.out.conv hm (by omega) (by rw [← HZ.out]; omega)
          have HK := Lib.hid HW.out.keeps
          go_wp2_with fail
          go_ret
          exact ⟨rfl, HK.out⟩
end Go.Proofs.YtjmiekhjkeioaaaDoor

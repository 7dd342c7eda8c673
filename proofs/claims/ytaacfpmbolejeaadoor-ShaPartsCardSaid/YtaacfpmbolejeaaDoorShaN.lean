/- The walks of the laws ShaIs and ShaNobody. -/
import Derived.Test.YtaacfpmbolejeaaDoorShaL
import Derived.Stop.BytesEq
namespace Go.Proofs.YtaacfpmbolejeaaDoor
open Go.RowKit
set_option linter.unusedVariables false

theorem sum_eq (l : List UInt8) (w : World) : (Op.equalIn 10000 22 (.agg (sumVs l).toArray) (.agg (sumVs l).toArray)).run Tryd.prog w = .ok true w := by
  have e : sumVs l = ((List.range 32).map (sumB l)).map Extern.Stop.cell := by unfold sumVs; rw [List.map_map]; rfl
  rw [e, run_equalIn_bytes w 9998 22 5 32 arr22 Tryd.underlying5 sizeU8 _ _ (by simp) (by simp)]
  simp
theorem sum_guard (op : BinOp) (x y : Operand) (l : List UInt8) (w : World) : (eqGuard op 22 x y (.agg (sumVs l).toArray) (.agg (sumVs l).toArray)).run Tryd.prog w = .ok () w :=
  run_eqGuard_agg w op 22 x y _ _ (by kernel_rfl)

set_option maxRecDepth 100000 in
theorem is_any (s : ByteArray) (w : World) (ht : TabOK w) :
    Calls Tryd.prog 3 #[.string s] w fun e w' => e = .returned (.bool true) ∧ Keeps w w' := by
  have HT := Lib.hid ht
  clear ht
  by_cases hs : s.data.toList.length ≤ 2048
  · have hs1 : (s.size : Int) ≤ 2048 := by rw [size_toList]; omega
    have HL := Lib.hid (show s.data.toList.length ≤ 900000 by omega)
    have HQ := Lib.hid (fun w0 => sum_eq s.data.toList w0)
    obtain ⟨S, hS⟩ : ∃ S, S = (sumVs s.data.toList).toArray := ⟨_, rfl⟩
    have H1 := Lib.hid (fun w0 (h : TabOK w0) => sumF_any s w0 h HL.out)
    have H2 := Lib.hid (fun w0 => rsum_any s w0 HL.out)
    have HG := Lib.hid (fun op x y w0 => sum_guard op x y s.data.toList w0)
    rw [← hS] at H1 H2 HQ HG
    clear hS hs
    go_enter Tryd.func3, Tryd.ntmps3
    go_wp2_with (first
      | (go_at_call 6; refine (H1.out _ HT.out).mono ?_; rintro e w1 ⟨rfl, hb1⟩; have HB1 := Lib.hid hb1; clear hb1)
      | (go_at_call 7; refine (H2.out _).mono ?_; rintro e w2 ⟨rfl, hk2⟩; have HK2 := Lib.hid hk2; clear hk2; have hq := HQ.out; have hg := HG.out)
      | (go_at_call 8; refine (awake_any _ ((HT.out.keeps (Keeps.of_below HB1.out)).keeps HK2.out)).mono ?_; rintro e w3 ⟨rfl, hb3⟩))
    go_ret
    exact ⟨rfl, ((Keeps.of_below HB1.out).trans HK2.out).below hb3⟩
  · have hs1 : 2048 < (s.size : Int) := by rw [size_toList]; omega
    go_enter Tryd.func3, Tryd.ntmps3
    go_wp2_with (go_at_call 8; refine (awake_any _ HT.out).mono ?_; rintro e w3 ⟨rfl, hb3⟩)
    go_ret
    exact ⟨rfl, Keeps.of_below hb3⟩

set_option maxRecDepth 100000 in
theorem nobody_any (s : ByteArray) (w : World) (ht : TabOK w) :
    Calls Tryd.prog 5 #[.string s] w fun e w' => e = .returned (.bool true) ∧ Keeps w w' := by
  have HT := Lib.hid ht
  clear ht
  by_cases hs : s.data.toList.length ≤ 2048
  · have hs1 : (s.size : Int) ≤ 2048 := by rw [size_toList]; omega
    have HQ := Lib.hid (fun w0 => sum_eq [] w0)
    obtain ⟨S, hS⟩ : ∃ S, S = (sumVs []).toArray := ⟨_, rfl⟩
    have H1 := Lib.hid (fun w0 (h : TabOK w0) => sum_nil w0 h)
    have H2 := Lib.hid (fun w0 => rsum_any ⟨#[]⟩ w0 (by decide))
    have HG := Lib.hid (fun op x y w0 => sum_guard op x y [] w0)
    rw [show sumVs (ByteArray.mk #[]).data.toList = sumVs [] from rfl] at H2
    rw [← hS] at H1 H2 HQ HG
    clear hS hs
    go_enter Tryd.func5, Tryd.ntmps5
    go_wp2_with (first
      | (go_at_call 9; refine (add_nil s _).mono ?_; rintro e w1 ⟨rfl, rfl⟩)
      | (go_at_call 12; refine (reset_nil _).mono ?_; rintro e w1 ⟨rfl, rfl⟩)
      | (go_at_call 11; refine (len_nil _).mono ?_; rintro e w1 ⟨rfl, rfl⟩)
      | (go_at_call 10; refine (H1.out _ HT.out).mono ?_; rintro e w1 ⟨rfl, hb1⟩; have HB1 := Lib.hid hb1; clear hb1)
      | (go_at_call 7; refine (H2.out _).mono ?_; rintro e w2 ⟨rfl, hk2⟩; have HK2 := Lib.hid hk2; clear hk2; have hq := HQ.out; have hg := HG.out)
      | (go_at_call 8; refine (awake_any _ ((HT.out.keeps (Keeps.of_below HB1.out)).keeps HK2.out)).mono ?_; rintro e w3 ⟨rfl, hb3⟩))
    go_ret
    exact ⟨rfl, ((Keeps.of_below HB1.out).trans HK2.out).below hb3⟩
  · have hs1 : 2048 < (s.size : Int) := by rw [size_toList]; omega
    go_enter Tryd.func5, Tryd.ntmps5
    go_wp2_with (go_at_call 8; refine (awake_any _ HT.out).mono ?_; rintro e w3 ⟨rfl, hb3⟩)
    go_ret
    exact ⟨rfl, Keeps.of_below hb3⟩
end Go.Proofs.YtaacfpmbolejeaaDoor

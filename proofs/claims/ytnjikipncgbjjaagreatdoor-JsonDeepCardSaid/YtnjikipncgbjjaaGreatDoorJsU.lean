/- The contract of innerOf's iterator: the addresses of the values that stand in a value. -/
import Derived.Test.YtnjikipncgbjjaaGreatDoorJsT
import Derived.RangeFuncNested
import Derived.RangeFuncBound
import Derived.RangeFuncCalls
import Derived.RangeFuncLeaves
import Derived.Shelf.Abstract
import Derived.Shelf.RegionOpen
import Derived.WalkKit
import Derived.OwnWalkIn
import Derived.TacticsInMore
import Derived.LoopNIn
import Derived.LoopIn
namespace Go.Proofs.YtnjikipncgbjjaaGreatDoor
open Go.RowKit Go.Shelf
attribute [local go_sem] Oper.semAt_some
set_option linter.unusedVariables false
set_option maxRecDepth 100000

/-- The row of a value's list or fields: the addresses of zs, in strides of s from d on. -/
def RowAt {α : Type} (ad : α → Nat × Nat) (s d : Nat) (a : Option Addr) (zs : List α) : Prop :=
  zs = [] ∨ ∃ b o, a = some ⟨b, o, none⟩ ∧ ∀ (j : Nat) (h : j < zs.length), ad zs[j] = (b, o + j * s + d)

theorem take_snoc' {α : Type} (zs : List α) (k : Nat) (h : k < zs.length) : zs.take k ++ [zs[k]] = zs.take (k + 1) := by rw [List.take_succ_eq_append_getElem h]

set_option maxHeartbeats 2000000 in
theorem inner_in {α : Type} (ad : α → Nat × Nat) (Kp : World → World → Prop) (F : Fence) (n : Nat) (h73 : F.fn 73) (hro : F.round = none) (hn : 1 ≤ n) (l B vb vo : Nat) (z1 z2 : List α) (a2 a3 : Option Addr) (cap2 cap3 : Nat)
    (hl1 : z1.length ≤ 1099511627776) (hl2 : z2.length ≤ 1099511627776) (h2 : RowAt ad 4 0 a2 z1) (h3 : RowAt ad 5 1 a3 z2)
    (hKp : ∀ {W W' : World}, Kp W W' → W'.heap[B]? = W.heap[B]? ∧ W'.heap[vb]? = W.heap[vb]?) (J Jx : List α → World → Prop)
    (hY : ∀ pre x W, J pre W → pre.length < z1.length + z2.length → YieldAt F (n - 1) Tryz.prog l #[.pointer (some ⟨(ad x).1, (ad x).2, none⟩)] W fun e W' =>
      (e = .returned (.bool true) ∧ J (pre ++ [x]) W' ∧ Kp W W') ∨ (e = .returned (.bool false) ∧ Jx (pre ++ [x]) W'))
    (W : World) (c0 : W.cell? ⟨B, 0, none⟩ = some (.pointer (some ⟨vb, vo, none⟩))) (c2 : W.cell? ⟨vb, vo + 2, none⟩ = some (.slice a2 z1.length cap2)) (c3 : W.cell? ⟨vb, vo + 3, none⟩ = some (.slice a3 z2.length cap3)) (h0 : J [] W) :
    CallsIn F n Tryz.prog 73 #[.func (.yield l) #[] #[], .pointer (some ⟨B, 0, none⟩)] W fun e W' => (∃ v, e = .returned v) ∧
      ((∃ ys, ys = z1 ++ z2 ∧ J ys W') ∨ (∃ pre, pre <+: z1 ++ z2 ∧ Jx pre W')) := by
  refine callsIn_of_wp Tryz.func73 rfl h73 ?_ hro
  simp only [Tryz.ntmps73, List.size_toArray, List.length_cons, List.length_nil, Nat.reduceAdd, Nat.reduceSub, Array.replicate_succ, Array.replicate_zero, List.push_toArray, List.append_toArray, List.nil_append, List.cons_append]
  gi_wp2
  gi_loopw [10] (fun i wr => ∃ k : Nat, k ≤ z1.length ∧ i = .int .i64 k ∧ J (z1.take k) wr ∧ wr.cell? ⟨B, 0, none⟩ = some (.pointer (some ⟨vb, vo, none⟩)) ∧ wr.cell? ⟨vb, vo + 2, none⟩ = some (.slice a2 z1.length cap2) ∧ wr.cell? ⟨vb, vo + 3, none⟩ = some (.slice a3 z2.length cap3))
    (fun i _ => z1.length - (intOf i).toNat)
  case atStart => exact ⟨0, Nat.zero_le _, rfl, h0, c0, c2, c3⟩
  case round =>
    obtain ⟨k, hk, rfl, hJ, d0, d2, d3⟩ := hrel
    by_cases hlt : k < z1.length
    · rcases h2 with h2 | ⟨b, o, rfl, hz⟩
      · exact absurd hlt (by rw [h2]; simp)
      obtain ⟨fn, tmps, assign, body, hy, hR⟩ := hY _ z1[k] wr hJ (by rw [List.length_take]; omega)
      have hzk := hz k hlt
      rw [hzk] at hy
      dsimp only [Nat.add_zero] at hy
      gi_wp2
      refine hR.mono ?_
      rintro e W3 (⟨rfl, hJ3, hk3⟩ | ⟨rfl, hJx3⟩)
      · have e0 := (World.cell?_of_block (a := ⟨B, 0, none⟩) (hKp hk3).1).trans d0
        have e2 := (World.cell?_of_block (a := ⟨vb, vo + 2, none⟩) (hKp hk3).2).trans d2
        have e3 := (World.cell?_of_block (a := ⟨vb, vo + 3, none⟩) (hKp hk3).2).trans d3
        gi_wp2
        go_roundw
        case rel => exact ⟨k + 1, by omega, by simp, by rw [← take_snoc' z1 k hlt]; exact hJ3, e0, e2, e3⟩
        case measure => simp [intOf]; omega
      · gi_wp2
        refine bodyPost_ret (results_none rfl _ _ _) rfl ?_
        refine ⟨⟨_, rfl⟩, .inr ⟨_, ?_, hJx3⟩⟩
        rw [take_snoc' z1 k hlt]
        exact (List.take_prefix _ _).trans (List.prefix_append _ _)
    · obtain rfl : k = z1.length := by omega
      rw [List.take_length] at hJ
      have hlen : z1.length ≤ 1099511627776 := hl1
      generalize hn1 : z1.length = n1 at *
      gi_wp2
      gi_loopw [28] (fun i wr => ∃ k : Nat, k ≤ z2.length ∧ i = .int .i64 k ∧ J (z1 ++ z2.take k) wr ∧ wr.cell? ⟨B, 0, none⟩ = some (.pointer (some ⟨vb, vo, none⟩)) ∧ wr.cell? ⟨vb, vo + 3, none⟩ = some (.slice a3 z2.length cap3))
        (fun i _ => z2.length - (intOf i).toNat)
      case atStart => exact ⟨0, Nat.zero_le _, rfl, by simpa using hJ, d0, d3⟩
      case round =>
        clear hJ d0 d2 d3
        obtain ⟨k, hk, rfl, hJ, d0, d3⟩ := hrel
        by_cases hlt : k < z2.length
        · rcases h3 with h3 | ⟨b, o, rfl, hz⟩
          · exact absurd hlt (by rw [h3]; simp)
          obtain ⟨fn, tmps, assign, body, hy, hR⟩ := hY _ z2[k] _ hJ (by rw [List.length_append, List.length_take]; omega)
          have hzk := hz k hlt
          rw [hzk] at hy
          dsimp only at hy
          gi_wp2
          refine hR.mono ?_
          rintro e W3 (⟨rfl, hJ3, hk3⟩ | ⟨rfl, hJx3⟩)
          · have e0 := (World.cell?_of_block (a := ⟨B, 0, none⟩) (hKp hk3).1).trans d0
            have e3 := (World.cell?_of_block (a := ⟨vb, vo + 3, none⟩) (hKp hk3).2).trans d3
            gi_wp2
            go_roundw
            case rel => exact ⟨k + 1, by omega, by simp, by rw [← take_snoc' z2 k hlt, ← List.append_assoc]; exact hJ3, e0, e3⟩
            case measure => simp [intOf]; omega
          · gi_wp2
            refine bodyPost_ret (results_none rfl _ _ _) rfl ?_
            refine ⟨⟨_, rfl⟩, .inr ⟨_, ?_, hJx3⟩⟩
            rw [List.append_assoc, take_snoc' z2 k hlt]
            exact List.prefix_append_right_inj _ |>.2 (List.take_prefix _ _)
        · obtain rfl : k = z2.length := by omega
          rw [List.take_length] at hJ
          gi_wp2
          go_end0
          exact ⟨⟨_, rfl⟩, .inl ⟨_, rfl, hJ⟩⟩
end Go.Proofs.YtnjikipncgbjjaaGreatDoor

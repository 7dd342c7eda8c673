/- Layer 8: the law's do, at List; at every act. -/
import Derived.Test.YtagdhghjcibfbaaGreatInV
import Derived.LoopTactic
namespace Go.Proofs.YtagdhghjcibfbaaGreat
open Go.RowKit
set_option linter.unusedVariables false
set_option linter.unusedSectionVars false
set_option maxRecDepth 100000

theorem joinN_snoc (x : List UInt8) : ∀ l : List (List UInt8), joinN (l ++ [x]) = joinN l ++ x ++ [47]
  | [] => by simp [joinN]
  | y :: r => by simp [joinN, joinN_snoc x r]
theorem joinN_len : ∀ l : List (List UInt8), (∀ x ∈ l, x.length ≤ 32) → (joinN l).length ≤ 33 * l.length
  | [], _ => by simp [joinN]
  | y :: r, h => by
    have ih := joinN_len r (fun x hx => h x (by simp [hx]))
    have := h y (by simp)
    simp only [joinN, List.length_append, List.length_cons, List.length_nil]
    omega
theorem take_le {α : Type} (l : List α) (k : Nat) {x : α} (h : x ∈ l.take k) : x ∈ l := List.mem_of_mem_take h

section
variable {w : World} {t : Nat} {T : Tb} {A : Int → Nat × Nat} {mb : Nat} {S : Nat → Prop} (h : TbAt w t T A mb) (hS : ∀ k, Own t mb A T.nodes k → S k) (wf : Wf T) {N : Nat} (bd : Bd T N) (hN : N < 1000000000) (a : AcT) (ao : ActOk a)
include h hS wf bd hN ao
theorem do12 (hk : ∀ i : Int, 1 ≤ i → i ≤ 11 → a.kind ≠ i) : Calls Tryz.prog 10 #[.pointer (some ⟨t, 0, none⟩), actV a] w fun e w' => e = .returned (.tuple #[.int .i64 (T.step a).2.1, .string (bs (T.step a).2.2.1), .int .i64 (T.step a).2.2.2]) ∧ DoP w t (T.step a).1 S w' := by
  have hst : T.step a = (T, if T.kindE a.dir true = 0 then ((T.nd a.dir).names.length : Int) else 0, if T.kindE a.dir true = 0 then joinN ((T.nd a.dir).names.map (·.1)) else [], T.kindE a.dir true) := by
    unfold Tb.step
    rw [if_neg (hk 1 (by omega) (by omega)), if_neg (hk 2 (by omega) (by omega)), if_neg (hk 3 (by omega) (by omega)), if_neg (hk 4 (by omega) (by omega)), if_neg (hk 5 (by omega) (by omega)), if_neg (hk 6 (by omega) (by omega)), if_neg (hk 7 (by omega) (by omega)), if_neg (hk 8 (by omega) (by omega)), if_neg (hk 9 (by omega) (by omega)), if_neg (hk 10 (by omega) (by omega)), if_neg (hk 11 (by omega) (by omega))]
  rw [hst]
  have ok := bd.ok wf hN
  obtain ⟨W0, hW0⟩ : ∃ W0, w.alloc (.cells #[.int .i64 a.kind, .int .i64 a.id, .int .i64 a.dir, .int .i64 a.at_, .int .i64 a.n, .string (bs a.name), .string (bs a.nm), .bool a.flag] 36) = W0 := ⟨_, rfl⟩
  have hb0 : Below w.heap.size w W0 := by rw [← hW0]; exact (Below.refl _ w).alloc (Nat.le_refl _) _
  have bx : BX W0 w.heap.size a := by rw [← hW0]; exact (MapKept.heap_alloc w _).1
  have h0 : TbAt W0 t T A mb := h.below hb0
  have x0 := bx.c0
  have x2 := bx.c2
  have kf : ∀ i : Int, 1 ≤ i → i ≤ 11 → (a.kind == i) = false := fun i h1 h2 => by simpa using hk i h1 h2
  have k1 := kf 1 (by omega) (by omega); have k2 := kf 2 (by omega) (by omega); have k3 := kf 3 (by omega) (by omega); have k4 := kf 4 (by omega) (by omega); have k5 := kf 5 (by omega) (by omega); have k6 := kf 6 (by omega) (by omega)
  have k7 := kf 7 (by omega) (by omega); have k8 := kf 8 (by omega) (by omega); have k9 := kf 9 (by omega) (by omega); have k10 := kf 10 (by omega) (by omega); have k11 := kf 11 (by omega) (by omega)
  have HB0 := Lib.hid hb0
  have H := Lib.hid h
  by_cases hE : T.kindE a.dir true = 0
  · rw [if_pos hE, if_pos hE, hE]
    obtain ⟨n, hn, hd⟩ := kind_some hE
    have CL := Lib.hid (list_ok h0 ao.dir hE (by rw [nd_of hn]; exact wf.nris _ _ hn) (by rw [nd_of hn]; have := ok.nln _ _ hn; omega))
    rw [nd_of hn] at CL ⊢
    have hnl := ok.nln _ _ hn
    have hall : ∀ x ∈ n.names.map (·.1), x.length ≤ 32 := fun x hx => by
      rw [List.mem_map] at hx
      obtain ⟨p, hp, rfl⟩ := hx
      exact nm_len (wf.nms _ _ p.1 p.2 hn (mem_aget (ris_ne ord_S (wf.nris _ _ hn)) hp))
    have hlen : (n.names.map (·.1)).length = n.names.length := List.length_map _
    obtain ⟨m, hm⟩ : ∃ m, m = n.names.length := ⟨_, rfl⟩
    rw [← hm] at hnl hlen ⊢
    generalize n.names.map (·.1) = ls at *
    have HA := Lib.hid hall
    have HLN := Lib.hid hlen
    unfold actV
    clear hst bx h0 hb0 ok wf bd hN ao hk h kf hE hn hd hall hlen hm
    go_enter Tryz.func10, Tryz.ntmps10
    go_wp2_with (go_at_call 22; (with_reducible refine CL.out.mono ?_); rintro e w1 ⟨v, rfl, hs, hb⟩; obtain ⟨sa, sc, rfl, hsc1, hsc2, hsat⟩ := hs; have HS1 := Lib.hid hsat; have HB := Lib.hid hb; rw [HLN.out]; clear hb hsat hsc1 hsc2)
    go_loop [15, 16] (fun s i => ∃ (k : Nat), i = .int .i64 k ∧ k ≤ m ∧ s = .string (bs (joinN (ls.take k)))) (fun _ i => m - (intOf i).toNat)
    case atStart => exact ⟨0, rfl, Nat.zero_le _, rfl⟩
    case round =>
      obtain ⟨k, rfl, hk, rfl⟩ := hrel
      by_cases hlt : k < m
      · rcases HS1.out with e0 | ⟨b, o, rfl, hw, hc⟩
        · exact absurd hlt (by rw [← HLN.out, e0]; simp)
        have hk' : k < ls.length := by rw [HLN.out]; exact hlt
        have hx := hc k hk'
        have HT : Hid (joinN (ls.take (k + 1)) = joinN (ls.take k) ++ ls[k] ++ [47]) := by show _ = _; rw [List.take_succ_eq_append_getElem hk', joinN_snoc]
        have hxl := HA.out ls[k] (List.getElem_mem hk')
        have hjl := joinN_len (ls.take k) (fun x hx => HA.out x (take_le _ _ hx))
        have htl : (ls.take k).length ≤ k := by rw [List.length_take]; omega
        generalize ls[k] = x at *
        generalize joinN (ls.take k) = acc at *
        have a1 : ∀ w0 : World, (Op.stringOp .add (bs acc) (bs x)).run Tryz.prog w0 = .ok (.string (bs (acc ++ x))) w0 := fun w0 => bs_add w0 _ _ (by omega)
        have a2 : ∀ w0 : World, (Op.stringOp .add (bs (acc ++ x)) ⟨#[47]⟩).run Tryz.prog w0 = .ok (.string (bs (acc ++ x ++ [47]))) w0 := fun w0 => bs_add w0 _ [47] (by rw [List.length_append]; simp only [List.length_cons, List.length_nil]; omega)
        clear hc hjl htl hxl
        go_wp2_with fail
        go_round
        case rel => exact ⟨k + 1, by go_num, by omega, by rw [HT.out, List.append_assoc]⟩
        case measure => simp [intOf]; omega
      · obtain rfl : k = m := by omega
        have HT : Hid (ls.take k = ls) := by show _ = _; rw [List.take_of_length_le (by rw [HLN.out]; exact Nat.le_refl _)]
        rw [HT.out]
        go_wp2_with fail
        go_ret3
        exact ⟨rfl, doP_below H.out (HB0.out.trans (HB.out.mono HB0.out.size)) hS⟩
  · rw [if_neg hE, if_neg hE]
    have CL := Lib.hid (list_no h0 ao.dir hE)
    generalize T.kindE a.dir true = er at *
    unfold actV
    clear hst bx h0 hb0 ok wf bd hN ao hk h kf hE
    go_enter Tryz.func10, Tryz.ntmps10
    go_wp2_with (go_at_call 22; (with_reducible refine CL.out.mono ?_); rintro e w1 ⟨rfl, rfl⟩)
    go_loop [15, 16] (fun s i => s = .string ⟨#[]⟩ ∧ i = .int .i64 0) (fun _ _ => 0)
    case atStart => exact ⟨rfl, rfl⟩
    case round =>
      obtain ⟨rfl, rfl⟩ := hrel
      go_wp2_with fail
      go_ret3
      exact ⟨rfl, doP_below H.out HB0.out hS⟩
end
/-- An act on a table that lies in memory. -/
theorem do_any {w : World} {t : Nat} {T : Tb} {S : Nat → Prop} (hT : Tab w t T S) (wf : Wf T) {N : Nat} (bd : Bd T N) (hN : N < 1000000000) (a : AcT) (ao : ActOk a) :
    Calls Tryz.prog 10 #[.pointer (some ⟨t, 0, none⟩), actV a] w fun e w' => e = .returned (.tuple #[.int .i64 (T.step a).2.1, .string (bs (T.step a).2.2.1), .int .i64 (T.step a).2.2.2]) ∧ DoP w t (T.step a).1 S w' := by
  obtain ⟨A, mb, h, hS⟩ := hT
  by_cases k1 : a.kind = 1; · exact do1 h hS wf bd hN a ao k1
  by_cases k2 : a.kind = 2; · exact do2 h hS wf bd hN a ao k2
  by_cases k3 : a.kind = 3; · exact do3 h hS wf bd hN a ao k3
  by_cases k4 : a.kind = 4; · exact do4 h hS wf bd hN a ao k4
  by_cases k5 : a.kind = 5; · exact do5 h hS wf bd hN a ao k5
  by_cases k6 : a.kind = 6; · exact do6 h hS wf bd hN a ao k6
  by_cases k7 : a.kind = 7; · exact do7 h hS wf bd hN a ao k7
  by_cases k8 : a.kind = 8; · exact do8 h hS wf bd hN a ao k8
  by_cases k9 : a.kind = 9; · exact do9 h hS wf bd hN a ao k9
  by_cases k10 : a.kind = 10; · exact do10 h hS wf bd hN a ao k10
  by_cases k11 : a.kind = 11; · exact do11 h hS wf bd hN a ao k11
  exact do12 h hS wf bd hN a ao (fun i h1 h2 => by
    have : i = 1 ∨ i = 2 ∨ i = 3 ∨ i = 4 ∨ i = 5 ∨ i = 6 ∨ i = 7 ∨ i = 8 ∨ i = 9 ∨ i = 10 ∨ i = 11 := by omega
    rcases this with rfl | rfl | rfl | rfl | rfl | rfl | rfl | rfl | rfl | rfl | rfl <;> assumption)
end Go.Proofs.YtagdhghjcibfbaaGreat

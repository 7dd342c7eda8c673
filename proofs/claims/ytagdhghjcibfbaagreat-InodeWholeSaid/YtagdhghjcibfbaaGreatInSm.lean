/- Layer 8: the reference's Same, at two rows of one list. -/
import Derived.Test.YtagdhghjcibfbaaGreatInNc
import Derived.Deep.RegionHeld3
import Derived.Deep.CutRange
import Derived.Deep.QuietTactic
import Derived.BigQuiet
namespace Go.Proofs.YtagdhghjcibfbaaGreat
open Go.RowKit Go.Sort Go.Shelf
set_option linter.unusedVariables false
set_option linter.unusedSectionVars false
set_option maxRecDepth 100000

/-- Six cells of a node in a block of its own. -/
def SB (w : World) (b : Nat) (p : Int × Nd) (eb ec : Nat) : Prop := w.heap[b]? = some (.cells #[.int .i64 p.1, .bool p.2.dir, .int .i64 p.2.links, .int .i64 p.2.holds, .string (bs p.2.data), .slice (some ⟨eb, 0, none⟩) p.2.names.length ec] 63 (0, 0))
section
variable {w w' : World} {b : Nat} {p : Int × Nd} {eb ec : Nat} (h : SB w b p eb ec)
include h
theorem SB.lt : b < w.heap.size := (Array.getElem?_eq_some_iff.1 h).1
theorem SB.c0 : w.cell? ⟨b, 0, none⟩ = some (.int .i64 p.1) := by unfold SB at h; simp [World.cell?, h]
theorem SB.c1 : w.cell? ⟨b, 1, none⟩ = some (.bool p.2.dir) := by unfold SB at h; simp [World.cell?, h]
theorem SB.c2 : w.cell? ⟨b, 2, none⟩ = some (.int .i64 p.2.links) := by unfold SB at h; simp [World.cell?, h]
theorem SB.c3 : w.cell? ⟨b, 3, none⟩ = some (.int .i64 p.2.holds) := by unfold SB at h; simp [World.cell?, h]
theorem SB.c4 : w.cell? ⟨b, 4, none⟩ = some (.string (bs p.2.data)) := by unfold SB at h; simp [World.cell?, h]
theorem SB.c5 : w.cell? ⟨b, 5, none⟩ = some (.slice (some ⟨eb, 0, none⟩) p.2.names.length ec) := by unfold SB at h; simp [World.cell?, h]
end
theorem sb_two {w0 wr : World} (hb : RowKit.Below w0.heap.size w0 wr) (x : Int × Nd) (e1 k1 e2 k2 : Nat) (W : World)
    (hW : W = ((wr.alloc (.cells #[.int .i64 x.1, .bool x.2.dir, .int .i64 x.2.links, .int .i64 x.2.holds, .string (bs x.2.data), .slice (some ⟨e1, 0, none⟩) x.2.names.length k1] 63)).alloc (.cells #[.int .i64 x.1, .bool x.2.dir, .int .i64 x.2.links, .int .i64 x.2.holds, .string (bs x.2.data), .slice (some ⟨e2, 0, none⟩) x.2.names.length k2] 63)).drew) :
    SB W wr.heap.size x e1 k1 ∧ SB W (wr.heap.size + 1) x e2 k2 ∧ RowKit.Below w0.heap.size w0 W := by
  subst hW
  obtain ⟨o1, ho1⟩ : ∃ o : Obj, o = .cells #[.int .i64 x.1, .bool x.2.dir, .int .i64 x.2.links, .int .i64 x.2.holds, .string (bs x.2.data), .slice (some ⟨e1, 0, none⟩) x.2.names.length k1] 63 (0, 0) := ⟨_, rfl⟩
  obtain ⟨o2, ho2⟩ : ∃ o : Obj, o = .cells #[.int .i64 x.1, .bool x.2.dir, .int .i64 x.2.links, .int .i64 x.2.holds, .string (bs x.2.data), .slice (some ⟨e2, 0, none⟩) x.2.names.length k2] 63 (0, 0) := ⟨_, rfl⟩
  unfold SB
  rw [← ho1, ← ho2]
  have z : (wr.alloc o1).heap.size = wr.heap.size + 1 := by simp
  have a1 := (MapKept.heap_alloc wr o1)
  have a2 := (MapKept.heap_alloc (wr.alloc o1) o2)
  have b1 : RowKit.Below wr.heap.size wr (wr.alloc o1) := (RowKit.Below.refl _ _).alloc (Nat.le_refl _) _
  have b2 : RowKit.Below (wr.alloc o1).heap.size (wr.alloc o1) ((wr.alloc o1).alloc o2) := (RowKit.Below.refl _ _).alloc (Nat.le_refl _) _
  refine ⟨?_, ?_, ((hb.trans (b1.mono hb.size)).trans (b2.mono (Nat.le_trans hb.size b1.size))).drew⟩
  · show ((wr.alloc o1).alloc o2).heap[wr.heap.size]? = _
    rw [b2.block wr.heap.size (by omega)]
    exact a1.1
  · show ((wr.alloc o1).alloc o2).heap[wr.heap.size + 1]? = _
    rw [← z]
    exact a2.1
set_option maxHeartbeats 8000000 in
theorem same_any (v1 v2 : Value) (l : List (Int × Nd)) (w : World) (h1 : NsC w v1 l) (h2 : NsC w v2 l) (hl : l.length ≤ 1048576) (hnl : ∀ j (h : j < l.length), l[j].2.names.length ≤ 1099511627776) :
    Calls Tryz.prog 14 #[v1, v2] w fun e w' => e = .returned (.bool true) ∧ Below w.heap.size w w' := by
  obtain ⟨g1, c1, rfl, hg1, hc1⟩ := h1
  obtain ⟨g2, c2, rfl, hg2, hc2⟩ := h2
  obtain ⟨n, hn⟩ : ∃ n, n = l.length := ⟨_, rfl⟩
  rw [← hn]
  have hn4 : n ≤ 1048576 := by omega
  have HC1 : Hid (∀ j (h : j < l.length), ∃ eb ec, ∀ wr : World, Below w.heap.size w wr → NcAt wr g1 j l[j] eb ec) := Lib.hid (fun j hj => by obtain ⟨eb, ec, h⟩ := hc1 j hj; exact ⟨eb, ec, fun wr hb => h.below hg1 hb⟩)
  have HC2 : Hid (∀ j (h : j < l.length), ∃ eb ec, ∀ wr : World, Below w.heap.size w wr → NcAt wr g2 j l[j] eb ec) := Lib.hid (fun j hj => by obtain ⟨eb, ec, h⟩ := hc2 j hj; exact ⟨eb, ec, fun wr hb => h.below hg2 hb⟩)
  have HN : Hid (n = l.length) := Lib.hid hn
  have HNL := Lib.hid hnl
  clear hc1 hc2 hn hl hnl hg1 hg2
  go_enter Tryz.func14, Tryz.ntmps14
  go_wp2_with fail
  go_loopw [5] (fun s5 wr => ∃ (i : Nat), s5 = .int .i64 i ∧ i ≤ n ∧ Hid (RowKit.Below w.heap.size w wr)) (fun s5 _ => n - (intOf s5).toNat)
  case atStart => exact ⟨0, rfl, Nat.zero_le _, Lib.hid (RowKit.Below.refl _ _)⟩
  case round =>
    obtain ⟨i, rfl, hi, HBE⟩ := hrel
    by_cases hilt : i < n
    · have hi' : i < l.length := by rw [← HN.out]; exact hilt
      have hii : (i : Int) < (n : Int) := by omega
      obtain ⟨e1, k1, a1⟩ := HC1.out i hi'
      obtain ⟨e2, k2, a2⟩ := HC2.out i hi'
      have hnl := HNL.out i hi'
      have A1 := Lib.hid a1
      have A2 := Lib.hid a2
      have b1 := a1 _ HBE.out
      have b2 := a2 _ HBE.out
      generalize l[i] = x at *
      obtain ⟨m, hm⟩ : ∃ m, m = x.2.names.length := ⟨_, rfl⟩
      have p0 := b1.c0; have p1 := b1.c1; have p2 := b1.c2; have p3 := b1.c3; have p4 := b1.c4; have p5 := b1.c5
      have q0 := b2.c0; have q1 := b2.c1; have q2 := b2.c2; have q3 := b2.c3; have q4 := b2.c4; have q5 := b2.c5
      rw [← hm] at p5 q5 hnl
      have HM := Lib.hid hm
      clear a1 a2 b1 b2 hm
      go_upto_region 6 with fail
      go_cut [6, 7] from 14 to 100 (fun s6 s7 wx => ∃ g3 g4, s6 = .pointer (some ⟨g3, 0, none⟩) ∧ s7 = .pointer (some ⟨g4, 0, none⟩) ∧ SB wx g3 x e1 k1 ∧ SB wx g4 x e2 k2 ∧ RowKit.Below w.heap.size w wx)
      case first =>
        rw [HM.out] at p5 q5
        have hg1 : g1 < wr.heap.size := World.block_lt_of_cell? wr _ p0
        have hg2 : g2 < wr.heap.size := World.block_lt_of_cell? wr _ q0
        go_region
        all_goals
          go_wp2_with fail
          go_meet
          first
            | exact ⟨_, _, rfl, rfl, (sb_two HBE.out x e1 k1 e2 k2 _ rfl).1, (sb_two HBE.out x e1 k1 e2 k2 _ rfl).2.1, (sb_two HBE.out x e1 k1 e2 k2 _ rfl).2.2⟩
            | exact ⟨_, _, rfl, rfl, (sb_two HBE.out x e2 k2 e1 k1 _ rfl).2.1, (sb_two HBE.out x e2 k2 e1 k1 _ rfl).1, (sb_two HBE.out x e2 k2 e1 k1 _ rfl).2.2⟩
      case rest =>
        obtain ⟨g3, g4, rfl, rfl, h3, h4, hb⟩ := hcut
        have HB3 := Lib.hid hb
        have H3 := Lib.hid h3
        have H4 := Lib.hid h4
        have u0 := h3.c0; have u1 := h3.c1; have u2 := h3.c2; have u3 := h3.c3; have u4 := h3.c4; have u5 := h3.c5
        have v0 := h4.c0; have v1 := h4.c1; have v2 := h4.c2; have v3 := h4.c3; have v4 := h4.c4; have v5 := h4.c5
        rw [← HM.out] at u5 v5
        have z0 : (x.1 != x.1) = false := by simp
        have z1 : (x.2.dir != x.2.dir) = false := by simp
        have z2 : (x.2.links != x.2.links) = false := by simp
        have z3 : (x.2.holds != x.2.holds) = false := by simp
        have z4 : ((bs x.2.data).toList != (bs x.2.data).toList) = false := by simp
        have z5 : ((m : Int) != (m : Int)) = false := by simp
        clear h3 h4 hb p0 p1 p2 p3 p4 p5 q0 q1 q2 q3 q4 q5
        go_wp2_with fail
        go_loopw [8] (fun s8 wr2 => ∃ (k : Nat), s8 = .int .i64 k ∧ k ≤ m ∧ Hid (RowKit.Below wc.heap.size wc wr2)) (fun s8 _ => m - (intOf s8).toNat)
        case atStart => exact ⟨0, rfl, Nat.zero_le _, Lib.hid (RowKit.Below.refl _ _)⟩
        case round =>
          obtain ⟨k, rfl, hk, HB4⟩ := hrel
          have u5' := (HB4.out.cell H3.out.lt).trans u5
          have v5' := (HB4.out.cell H4.out.lt).trans v5
          have hbw := HB3.out.trans (HB4.out.mono HB3.out.size)
          by_cases hkl : k < m
          · have hkk : (k : Int) < (m : Int) := by omega
            have hk' : k < x.2.names.length := by rw [← HM.out]; exact hkl
            obtain ⟨y0, y1⟩ := (A1.out _ hbw).en k hk'
            obtain ⟨y2, y3⟩ := (A2.out _ hbw).en k hk'
            generalize x.2.names[k] = z at *
            clear hbw
            go_wp2_with fail
            go_quiet (fail)
            go_wp2_with fail
            go_roundw
            case rel => exact ⟨k + 1, by go_num, by omega, Lib.hid ⟨HB4.out.os, HB4.out.tape, HB4.out.output, HB4.out.size, HB4.out.block⟩⟩
            case measure => simp [intOf]; omega
          · obtain rfl : k = m := by omega
            have HBW := Lib.hid hbw
            clear hbw
            go_wp2_with fail
            go_roundw
            case rel => exact ⟨i + 1, by go_num, by omega, HBW⟩
            case measure => simp [intOf]; omega
    · obtain rfl : i = n := by omega
      go_wp2_with fail
      go_ret
      exact ⟨rfl, HBE.out⟩
end Go.Proofs.YtagdhghjcibfbaaGreat

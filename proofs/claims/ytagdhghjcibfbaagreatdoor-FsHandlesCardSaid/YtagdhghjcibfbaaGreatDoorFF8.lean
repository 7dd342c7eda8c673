/- Layer 9: the law FsNobody's walk. Layer 9: acts among the arguments, opened. -/
import Derived.Test.YtagdhghjcibfbaaGreatDoorFF6
import Derived.Deep.RegionHeld3
import Derived.Deep.Fields
import Derived.Deep.Slices
namespace Go.Proofs.YtagdhghjcibfbaaGreatDoor
open Go.RowKit
set_option linter.unusedVariables false
set_option linter.unusedSectionVars false
set_option maxRecDepth 100000

def factV (a : FAct) : Value := .agg #[.int .i64 a.owner, .bool a.out, .int .i64 a.op.kind, .string (bs a.op.path), .string (bs a.op.dst), .int .i64 a.op.h, .int .i64 a.op.at_, .int .i64 a.op.n, .string (bs a.op.data), .int .i64 a.op.pid, .int .i64 a.op.birth]
def FBX (w : World) (b : Nat) (a : FAct) : Prop := w.heap[b]? = some (.cells #[.int .i64 a.owner, .bool a.out, .int .i64 a.op.kind, .string (bs a.op.path), .string (bs a.op.dst), .int .i64 a.op.h, .int .i64 a.op.at_, .int .i64 a.op.n, .string (bs a.op.data), .int .i64 a.op.pid, .int .i64 a.op.birth] 36 (0, 0))
theorem fact_bx {w : World} {b : Nat} {a : FAct} (h : FBX w b a) : FActAt w b 0 a := by
  unfold FBX at h
  refine ⟨?_, ?_, ?_, ?_, ?_, ?_, ?_, ?_, ?_, ?_, ?_⟩ <;> simp [World.cell?, h]
/-- The two that nobody made, in a slice. -/
theorem two_fs (w2 : World) : ∃ W4, (w2.alloc (.cells #[.pointer none, .map none] 44)).alloc (.cells #[.pointer none, .pointer (some ⟨w2.heap.size, 0, none⟩)] 23) = W4 ∧ Below w2.heap.size w2 W4 ∧
    W4.cell? ⟨w2.heap.size, 0, none⟩ = some (.pointer none) ∧ W4.cell? ⟨w2.heap.size + 1, 0, none⟩ = some (.pointer none) ∧ W4.cell? ⟨w2.heap.size + 1, 1, none⟩ = some (.pointer (some ⟨w2.heap.size, 0, none⟩)) ∧ W4.heap.size = w2.heap.size + 2 := by
  have hz : (w2.alloc (.cells #[.pointer none, .map none] 44)).heap.size = w2.heap.size + 1 := by simp
  refine ⟨_, rfl, ((Below.refl _ w2).alloc (Nat.le_refl _) _).alloc (by simp) _, ?_, ?_, ?_, by simp⟩
  · rw [World.cell?_alloc_lt _ _ _ (by simp)]; exact World.cell?_alloc_new w2 _ _ 0
  · have := World.cell?_alloc_new (w2.alloc (.cells #[.pointer none, .map none] 44)) #[.pointer none, .pointer (some ⟨w2.heap.size, 0, none⟩)] 23 0
    rw [hz] at this; exact this
  · have := World.cell?_alloc_new (w2.alloc (.cells #[.pointer none, .map none] 44)) #[.pointer none, .pointer (some ⟨w2.heap.size, 0, none⟩)] 23 1
    rw [hz] at this; exact this
set_option maxHeartbeats 4000000 in
theorem lawNobody9_any (a : FAct) (ha : FActIn a) (w : World) (hm : MaxOK w) :
    Calls Tryz.prog 5 #[factV a] w fun e w' => e = .returned (.bool true) ∧ Below w.heap.size w w' := by
  obtain ⟨W0, hW0⟩ : ∃ W0, w.alloc (.cells #[.int .i64 a.owner, .bool a.out, .int .i64 a.op.kind, .string (bs a.op.path), .string (bs a.op.dst), .int .i64 a.op.h, .int .i64 a.op.at_, .int .i64 a.op.n, .string (bs a.op.data), .int .i64 a.op.pid, .int .i64 a.op.birth] 36) = W0 := ⟨_, rfl⟩
  have hb0 : Below w.heap.size w W0 := by rw [← hW0]; exact (Below.refl _ w).alloc (Nat.le_refl _) _
  have z0 : W0.heap.size = w.heap.size + 1 := by rw [← hW0]; simp
  have bx : FBX W0 w.heap.size a := by rw [← hW0]; exact (MapKept.heap_alloc w _).1
  have fx := fact_bx bx
  have x0 := fx.c0; have x1 := fx.c1; have x2 := fx.c2; have x3 := fx.c3; have x4 := fx.c4; have x5 := fx.c5; have x6 := fx.c6; have x7 := fx.c7; have x8 := fx.c8; have x9 := fx.c9; have x10 := fx.c10
  obtain ⟨W1, hW1⟩ : ∃ W1, W0.alloc (.cells #[.int .i64 a.owner, .bool a.out, .int .i64 a.op.kind, .string (bs a.op.path), .string (bs a.op.dst), .int .i64 a.op.h, .int .i64 a.op.at_, .int .i64 a.op.n, .string (bs a.op.data), .int .i64 a.op.pid, .int .i64 a.op.birth] 36) = W1 := ⟨_, rfl⟩
  have hb1 : Below W0.heap.size W0 W1 := by rw [← hW1]; exact (Below.refl _ W0).alloc (Nat.le_refl _) _
  have bx1 : FBX W1 W0.heap.size a := by rw [← hW1]; exact (MapKept.heap_alloc W0 _).1
  have CS : Hid (Calls Tryz.prog 7 #[.slice (some ⟨W0.heap.size, 0, none⟩) 1 1, .int .i64 1] W1 fun e w' => e = .returned (.bool (fSmall [a] 1)) ∧ Below W1.heap.size W1 w') :=
    Lib.hid (fsmall_any (some ⟨W0.heap.size, 0, none⟩) [a] 1 W1 (.inr ⟨W0.heap.size, 0, rfl, by rw [← hW1]; simp, fun j hj => by
      obtain rfl : j = 0 := by simpa using hj
      exact fact_bx bx1⟩) (by simp) 1 (by decide))
  have AWK : Hid (∀ w' : World, Below w.heap.size w w' → Calls Tryz.prog 8 #[] w' fun e w'' => e = .returned (.bool true) ∧ Below w'.heap.size w' w'') := Lib.hid fun w' hb => awake9_any w' (hm.below hb)
  have HB1 := Lib.hid (hb0.trans (hb1.mono hb0.size))
  have HFX := Lib.hid (fx.below hb1 (by omega))
  have HZ : Hid (w.heap.size < W1.heap.size) := Lib.hid (by rw [← hW1]; simp; omega)
  unfold factV
  cases hs : fSmall [a] 1
  case false =>
    rw [hs] at CS
    clear bx bx1 hb0 hb1 z0 hs fx
    go_enter Tryz.func5, Tryz.ntmps5
    go_wp2_with (first
      | (go_at_call 7; (with_reducible refine CS.out.mono ?_); rintro e w1 ⟨rfl, hb⟩; have HB := Lib.hid (HB1.out.trans (hb.mono HB1.out.size)); clear hb)
      | (go_at_call 8; (with_reducible refine (AWK.out _ HB.out).mono ?_); rintro e w2 ⟨rfl, hb⟩; have HB2 := Lib.hid hb; clear hb))
    go_ret
    exact ⟨rfl, HB.out.trans (HB2.out.mono HB.out.size)⟩
  rw [hs] at CS
  clear bx bx1 hb0 hb1 z0 hs fx
  go_enter Tryz.func5, Tryz.ntmps5
  go_wp2_with (first
    | (go_at_call 7; (with_reducible refine CS.out.mono ?_); rintro e w2 ⟨rfl, hb⟩; obtain ⟨W4, hW4, hb4, q0, r0, r1, hz4⟩ := two_fs w2; have HW4 := Lib.hid hW4; have HB := Lib.hid hb; have HB4 := Lib.hid hb4; have HQ := Lib.hid (And.intro q0 (And.intro r0 (And.intro r1 hz4))); clear hb hb4 q0 r0 r1 hz4))
  have HBT : Hid (Below w.heap.size w W4) := Lib.hid (HB1.out.trans ((HB.out.trans (HB4.out.mono HB.out.size)).mono HB1.out.size))
  have HFX4 := Lib.hid ((HFX.out.below HB.out HZ.out).below HB4.out (Nat.lt_of_lt_of_le HZ.out HB.out.size))
  have HLT : Hid (w.heap.size < W4.heap.size) := Lib.hid (Nat.lt_of_lt_of_le HZ.out (Nat.le_trans HB.out.size HB4.out.size))
  clear hW0 hW1 x0 x1 x2 x3 x4 x5 x6 x7 x8 x9 x10 CS ha hm
  go_loopw [4] (fun i wr => ∃ (k : Nat), i = .int .i64 k ∧ k ≤ 2 ∧ Hid (Below W4.heap.size W4 wr)) (fun i _ => 2 - (intOf i).toNat)
  case atStart => exact ⟨0, rfl, Nat.zero_le _, Lib.hid (Below.refl _ _)⟩
  case round =>
    obtain ⟨k, rfl, hk, HBR⟩ := hrel
    by_cases hlt : k < 2
    · obtain ⟨q0, r0, r1, hz4⟩ := HQ.out
      obtain ⟨p, hp, hn⟩ : ∃ p, W4.cell? ⟨w2.heap.size + 1, k, none⟩ = some (.pointer p) ∧ FNob W4 p := by
        have : k = 0 ∨ k = 1 := by omega
        rcases this with rfl | rfl
        · exact ⟨none, r0, .inl rfl⟩
        · exact ⟨_, r1, .inr ⟨_, rfl, q0⟩⟩
      have FA : Hid (∀ w' : World, Below W4.heap.size W4 w' → w'.cell? ⟨w2.heap.size + 1, k, none⟩ = some (.pointer p) ∧ w'.cell? ⟨w.heap.size, 0, none⟩ = some (.int .i64 a.owner) ∧ w'.cell? ⟨w.heap.size, 2, none⟩ = some (.int .i64 a.op.kind) ∧ w'.cell? ⟨w.heap.size, 3, none⟩ = some (.string (bs a.op.path)) ∧ w'.cell? ⟨w.heap.size, 4, none⟩ = some (.string (bs a.op.dst)) ∧ w'.cell? ⟨w.heap.size, 5, none⟩ = some (.int .i64 a.op.h) ∧ w'.cell? ⟨w.heap.size, 6, none⟩ = some (.int .i64 a.op.at_) ∧ w'.cell? ⟨w.heap.size, 7, none⟩ = some (.int .i64 a.op.n) ∧ w'.cell? ⟨w.heap.size, 8, none⟩ = some (.string (bs a.op.data)) ∧ w'.cell? ⟨w.heap.size, 9, none⟩ = some (.int .i64 a.op.pid) ∧ w'.cell? ⟨w.heap.size, 10, none⟩ = some (.int .i64 a.op.birth)) := Lib.hid (fun w' hb => by
        have b' := HFX4.out.below hb HLT.out
        exact ⟨(hb.cell (show w2.heap.size + 1 < W4.heap.size by omega)).trans hp, b'.c0, by simpa using b'.c2, by simpa using b'.c3, by simpa using b'.c4, by simpa using b'.c5, by simpa using b'.c6, by simpa using b'.c7, by simpa using b'.c8, by simpa using b'.c9, by simpa using b'.c10⟩)
      have CD : Hid (∀ w' : World, Below W4.heap.size W4 w' → Calls Tryz.prog 9 #[.pointer p, .int .i64 a.owner, .agg #[.int .i64 a.op.kind, .string (bs a.op.path), .string (bs a.op.dst), .int .i64 a.op.h, .int .i64 a.op.at_, .int .i64 a.op.n, .string (bs a.op.data), .int .i64 a.op.pid, .int .i64 a.op.birth]] w' fun e w9 => e = .returned (.agg #[.int .i64 1, .int .i64 0, .string ⟨#[]⟩, .slice none 0 0]) ∧ Below w'.heap.size w' w9) := Lib.hid (fun w' hb => fnb_do (hn.below hb) a.owner a.op)
      have CE : Hid (∀ w' : World, Below W4.heap.size W4 w' → Calls Tryz.prog 10 #[.pointer p, .int .i64 a.owner] w' fun e w9 => e = .returned (.tuple #[]) ∧ w9 = w') := Lib.hid (fun w' hb => fnb_exit (hn.below hb) a.owner)
      have CU : Hid (∀ w' : World, Below W4.heap.size W4 w' → Calls Tryz.prog 11 #[.pointer p] w' fun e w9 => e = .returned (.int .i64 0) ∧ w9 = w') := Lib.hid (fun w' hb => fnb_used (hn.below hb))
      have CF : Hid (∀ w' : World, Below W4.heap.size W4 w' → Calls Tryz.prog 13 #[.pointer p] w' fun e w9 => e = .returned (.slice none 0 0) ∧ w9 = w') := Lib.hid (fun w' hb => fnb_files (hn.below hb))
      have CO : Hid (∀ w' : World, Below W4.heap.size W4 w' → Calls Tryz.prog 14 #[.pointer p] w' fun e w9 => e = .returned (.slice none 0 0) ∧ w9 = w') := Lib.hid (fun w' hb => fnb_owners (hn.below hb))
      have CC : Hid (∀ w' : World, Below W4.heap.size W4 w' → Calls Tryz.prog 15 #[.pointer p] w' fun e w9 => e = .returned (.pointer none) ∧ w9 = w') := Lib.hid (fun w' hb => fnb_clone (hn.below hb))
      clear q0 r0 r1 hz4 hp hn HQ hW4
      obtain ⟨f0, f1, f2, f3, f4, f5, f6, f7, f8, f9, f10⟩ := FA.out wr HBR.out
      go_wp2_with fail
      have HBD := Lib.hid (HBR.out.drew)
      have FAS : Hid (∀ w' : World, Below W4.heap.size W4 w' → w'.cell? ⟨w2.heap.size + 1, k, none⟩ = some (.pointer p) ∧ w'.cell? ⟨w.heap.size, 0, none⟩ = some (.int .i64 a.owner) ∧ w'.cell? ⟨w.heap.size, 2, none⟩ = some (.int .i64 a.op.kind) ∧ w'.cell? ⟨w.heap.size, 3, none⟩ = some (.string (bs a.op.path)) ∧ w'.cell? ⟨w.heap.size, 4, none⟩ = some (.string (bs a.op.dst)) ∧ w'.cell? ⟨w.heap.size, 5, none⟩ = some (.int .i64 a.op.h) ∧ w'.cell? ⟨w.heap.size, 6, none⟩ = some (.int .i64 a.op.at_) ∧ w'.cell? ⟨w.heap.size, 7, none⟩ = some (.int .i64 a.op.n) ∧ w'.cell? ⟨w.heap.size, 8, none⟩ = some (.string (bs a.op.data)) ∧ w'.cell? ⟨w.heap.size, 9, none⟩ = some (.int .i64 a.op.pid) ∧ w'.cell? ⟨w.heap.size, 10, none⟩ = some (.int .i64 a.op.birth) ∧ Below W4.heap.size W4 w') := Lib.hid fun w' hb => by
        obtain ⟨g0, g1, g2, g3, g4, g5, g6, g7, g8, g9, g10⟩ := FA.out _ hb
        exact ⟨g0, g1, g2, g3, g4, g5, g6, g7, g8, g9, g10, hb⟩
      go_region_held3 (fun w' => w'.cell? ⟨w2.heap.size + 1, k, none⟩ = some (.pointer p) ∧ w'.cell? ⟨w.heap.size, 0, none⟩ = some (.int .i64 a.owner) ∧ w'.cell? ⟨w.heap.size, 2, none⟩ = some (.int .i64 a.op.kind) ∧ w'.cell? ⟨w.heap.size, 3, none⟩ = some (.string (bs a.op.path)) ∧ w'.cell? ⟨w.heap.size, 4, none⟩ = some (.string (bs a.op.dst)) ∧ w'.cell? ⟨w.heap.size, 5, none⟩ = some (.int .i64 a.op.h) ∧ w'.cell? ⟨w.heap.size, 6, none⟩ = some (.int .i64 a.op.at_) ∧ w'.cell? ⟨w.heap.size, 7, none⟩ = some (.int .i64 a.op.n) ∧ w'.cell? ⟨w.heap.size, 8, none⟩ = some (.string (bs a.op.data)) ∧ w'.cell? ⟨w.heap.size, 9, none⟩ = some (.int .i64 a.op.pid) ∧ w'.cell? ⟨w.heap.size, 10, none⟩ = some (.int .i64 a.op.birth) ∧ Below W4.heap.size W4 w')
        (first | with_reducible exact FAS.out _ HBD.out | with_reducible exact FAS.out _ hbc | with_reducible exact FAS.out _ (hbc.alloc hbc.size _) | with_reducible exact FAS.out _ (HBR.out.alloc HBR.out.size _).drew | with_reducible exact FAS.out _ ((((hbc.setCell HBR.out.size _).setCell HBR.out.size _).setCell HBR.out.size _).setCell HBR.out.size _) | go_keep)
        (first | (go_at_call 9; (with_reducible refine (CD.out _ HBD.out).mono ?_); rintro e wc ⟨rfl, hbc0⟩; have hbc := HBD.out.trans (hbc0.mono HBD.out.size)) | (go_at_call 9; (with_reducible refine (CD.out _ (HBR.out.alloc HBR.out.size _).drew).mono ?_); rintro e wc ⟨rfl, hbc0⟩; have hbc := ((HBR.out.alloc HBR.out.size _).drew).trans (hbc0.mono (HBR.out.alloc HBR.out.size _).drew.size); have rs : RS wc wr.heap.size (.int .i64 0) (.int .i64 0) (.string ⟨#[]⟩) (.slice none 0 0) := RS.below (w := (wr.alloc (.cells #[.int .i64 0, .int .i64 0, .string ⟨#[]⟩, .slice none 0 0] 31)).drew) ((MapKept.heap_alloc wr _).1) hbc0; have v0 := rs.c0; have v1 := rs.c1; have v2 := rs.c2; have v3 := rs.c3; have y0 := rs.fr 0; have y1 := rs.fr 1; have y2 := rs.fr 2; have y3 := rs.fr 3))
      · have r5 : RS (wc.alloc (.cells #[.int .i64 1, .int .i64 0, .string ⟨#[]⟩, .slice none 0 0] 31)) wc.heap.size (.int .i64 1) (.int .i64 0) (.string ⟨#[]⟩) (.slice none 0 0) := (MapKept.heap_alloc wc _).1
        have hb5 := hbc.alloc hbc.size (.cells #[.int .i64 1, .int .i64 0, .string ⟨#[]⟩, .slice none 0 0] 31)
        clear f0 f1 f2 f3 f4 f5 f6 f7 f8 f9 f10 HBR HBD FAS CD hbc hbc0
        generalize wc.alloc (.cells #[.int .i64 1, .int .i64 0, .string ⟨#[]⟩, .slice none 0 0] 31) = W5 at *
        generalize wc.heap.size = bq at *
        have HB5 := Lib.hid hb5
        have R5 := Lib.hid r5
        have e0 := r5.c0; have e1 := r5.c1; have e2 := r5.c2; have e3 := r5.c3
        have hp5 := (FA.out _ hb5).1
        have ho5 := (FA.out _ hb5).2.1
        clear r5 hb5
        go_wp2_with fail
        go_quiet ((go_at_call 10; exact Calls.quiet_of_same (CE.out _ (below_drewN8 HB5.out _))))
        have hb6 := below_drewN8 HB5.out nq
        have r6 : RS (W5.drewN nq) bq (.int .i64 1) (.int .i64 0) (.string ⟨#[]⟩) (.slice none 0 0) := R5.out
        clear e0 e1 e2 e3 hp5 ho5
        generalize W5.drewN nq = W6 at *
        have HB6 := Lib.hid hb6
        have e0 := r6.c0; have e1 := r6.c1; have e2 := r6.c2; have e3 := r6.c3
        have CSR := Lib.hid (same_err W6)
        clear r6 hb6
        go_wp2_with (first
          | (go_at_call 12; (with_reducible refine CSR.out.mono ?_); rintro e w7 ⟨rfl, hb⟩; have HB7 := Lib.hid (HB6.out.trans (hb.mono HB6.out.size)); have hp7 := (FA.out _ HB7.out).1; clear hb)
          | (go_at_call 11; (with_reducible refine (CU.out _ HB7.out).mono ?_); rintro e w8 ⟨rfl, hw⟩; obtain rfl : w7 = w8 := hw.symm; clear hw)
          | (go_at_call 13; (with_reducible refine (CF.out _ HB7.out).mono ?_); rintro e w8 ⟨rfl, hw⟩; obtain rfl : w7 = w8 := hw.symm; clear hw)
          | (go_at_call 14; (with_reducible refine (CO.out _ HB7.out).mono ?_); rintro e w8 ⟨rfl, hw⟩; obtain rfl : w7 = w8 := hw.symm; clear hw)
          | (go_at_call 15; (with_reducible refine (CC.out _ HB7.out).mono ?_); rintro e w8 ⟨rfl, hw⟩; obtain rfl : w7 = w8 := hw.symm; clear hw))
        go_roundw
        case rel => exact ⟨k + 1, by go_num, by omega, HB7⟩
        case measure => simp [intOf]; omega
      · have r5 := rs.set4 (.int .i64 1) (.int .i64 0) (.string ⟨#[]⟩) (.slice none 0 0)
        have hb5 : Below W4.heap.size W4 (set4 wc wr.heap.size (.int .i64 1) (.int .i64 0) (.string ⟨#[]⟩) (.slice none 0 0)) := (((hbc.setCell (p := ⟨wr.heap.size, 0, none⟩) HBR.out.size _).setCell (p := ⟨wr.heap.size, 1, none⟩) HBR.out.size _).setCell (p := ⟨wr.heap.size, 2, none⟩) HBR.out.size _).setCell (p := ⟨wr.heap.size, 3, none⟩) HBR.out.size _
        unfold set4 at r5 hb5
        clear f0 f1 f2 f3 f4 f5 f6 f7 f8 f9 f10 HBD FAS CD hbc hbc0 rs v0 v1 v2 v3 y0 y1 y2 y3 HBR
        generalize (((wc.setCell ⟨wr.heap.size, 0, none⟩ (.int .i64 1)).setCell ⟨wr.heap.size, 1, none⟩ (.int .i64 0)).setCell ⟨wr.heap.size, 2, none⟩ (.string ⟨#[]⟩)).setCell ⟨wr.heap.size, 3, none⟩ (.slice none 0 0) = W5 at *
        generalize wr.heap.size = bq at *
        have HB5 := Lib.hid hb5
        have R5 := Lib.hid r5
        have e0 := r5.c0; have e1 := r5.c1; have e2 := r5.c2; have e3 := r5.c3
        have hp5 := (FA.out _ hb5).1
        have ho5 := (FA.out _ hb5).2.1
        clear r5 hb5
        go_wp2_with fail
        go_quiet ((go_at_call 10; exact Calls.quiet_of_same (CE.out _ (below_drewN8 HB5.out _))))
        have hb6 := below_drewN8 HB5.out nq
        have r6 : RS (W5.drewN nq) bq (.int .i64 1) (.int .i64 0) (.string ⟨#[]⟩) (.slice none 0 0) := R5.out
        clear e0 e1 e2 e3 hp5 ho5
        generalize W5.drewN nq = W6 at *
        have HB6 := Lib.hid hb6
        have e0 := r6.c0; have e1 := r6.c1; have e2 := r6.c2; have e3 := r6.c3
        have CSR := Lib.hid (same_err W6)
        clear r6 hb6
        go_wp2_with (first
          | (go_at_call 12; (with_reducible refine CSR.out.mono ?_); rintro e w7 ⟨rfl, hb⟩; have HB7 := Lib.hid (HB6.out.trans (hb.mono HB6.out.size)); have hp7 := (FA.out _ HB7.out).1; clear hb)
          | (go_at_call 11; (with_reducible refine (CU.out _ HB7.out).mono ?_); rintro e w8 ⟨rfl, hw⟩; obtain rfl : w7 = w8 := hw.symm; clear hw)
          | (go_at_call 13; (with_reducible refine (CF.out _ HB7.out).mono ?_); rintro e w8 ⟨rfl, hw⟩; obtain rfl : w7 = w8 := hw.symm; clear hw)
          | (go_at_call 14; (with_reducible refine (CO.out _ HB7.out).mono ?_); rintro e w8 ⟨rfl, hw⟩; obtain rfl : w7 = w8 := hw.symm; clear hw)
          | (go_at_call 15; (with_reducible refine (CC.out _ HB7.out).mono ?_); rintro e w8 ⟨rfl, hw⟩; obtain rfl : w7 = w8 := hw.symm; clear hw))
        go_roundw
        case rel => exact ⟨k + 1, by go_num, by omega, HB7⟩
        case measure => simp [intOf]; omega
    · obtain rfl : k = 2 := by omega
      have HBX := Lib.hid (HBT.out.trans (HBR.out.mono HBT.out.size))
      clear hW4
      go_wp2_with (first
        | (go_at_call 8; (with_reducible refine (AWK.out _ HBX.out).mono ?_); rintro e w9 ⟨rfl, hb⟩; have HB2 := Lib.hid hb; clear hb))
      go_ret
      exact ⟨rfl, HBX.out.trans (HB2.out.mono HBX.out.size)⟩
end Go.Proofs.YtagdhghjcibfbaaGreatDoor

namespace Go.Proofs.YtagdhghjcibfbaaGreatDoor
open Go.RowKit Go.ChangeShapes Go.WideShapes Go.Deep
set_option linter.unusedVariables false
set_option maxRecDepth 100000

theorem cells_int9 : Tryz.prog.cellsOf 3 = 1 := by kernel_rfl
theorem cells_str9 : Tryz.prog.cellsOf 9 = 1 := by kernel_rfl
theorem cells_bool9 : Tryz.prog.cellsOf 4 = 1 := by kernel_rfl
theorem cells_op9 : Tryz.prog.cellsOf 34 = 9 := by kernel_rfl
theorem cells_act9 : Tryz.prog.cellsOf 36 = 11 := by kernel_rfl
theorem inI_of9 {n : Int} (h : (Lit.int .i64 n).wf = true) : InI n := by
  unfold InI
  simp only [Lit.wf, decide_eq_true_eq, Bool.and_eq_true] at h
  first
    | exact h
    | (have h1 := h.1; have h2 := h.2; simp [IntKind.min, IntKind.max] at h1 h2; omega)
    | (simp [IntKind.wrap, IntKind.bits, IntKind.signed] at h; omega)
section
variable {H : Type} {enc : TypeId × Value → H} {w : World} {base : Nat} {spare : Nat → Bool} {held : Bool}
theorem op_of {n : Nat} {cs : List Value} {x : DataW H × List MemPlace} (h : DataW.trod enc Tryz.prog w base spare held n 34 cs = some x) :
    ∃ o : OpT, cs = [.int .i64 o.kind, .string (bs o.path), .string (bs o.dst), .int .i64 o.h, .int .i64 o.at_, .int .i64 o.n, .string (bs o.data), .int .i64 o.pid, .int .i64 o.birth] ∧ InI o.kind ∧ InI o.h ∧ InI o.at_ ∧ InI o.n := by
  obtain ⟨xs, m, _, _, hlen, hxl, hf⟩ := DataW.trod_struct Tryz.underlying34 h
  rw [cells_op9] at hlen
  match cs, hlen, xs, hxl with
  | [v0, v1, v2, v3, v4, v5, v6, v7, v8], _, [y0, y1, y2, y3, y4, y5, y6, y7, y8], _ =>
    have g0 := hf 0 _ rfl; have g1 := hf 1 _ rfl; have g2 := hf 2 _ rfl; have g3 := hf 3 _ rfl
    have g4 := hf 4 _ rfl; have g5 := hf 5 _ rfl; have g6 := hf 6 _ rfl; have g7 := hf 7 _ rfl; have g8 := hf 8 _ rfl
    simp [cells_int9, cells_str9] at g0 g1 g2 g3 g4 g5 g6 g7 g8
    obtain ⟨n0, e0, _, w0⟩ := DataW.trod_int Tryz.underlying3 g0
    obtain ⟨s1, e1, _, _⟩ := DataW.trod_string Tryz.underlying9 g1
    obtain ⟨s2, e2, _, _⟩ := DataW.trod_string Tryz.underlying9 g2
    obtain ⟨n3, e3, _, w3⟩ := DataW.trod_int Tryz.underlying3 g3
    obtain ⟨n4, e4, _, w4⟩ := DataW.trod_int Tryz.underlying3 g4
    obtain ⟨n5, e5, _, w5⟩ := DataW.trod_int Tryz.underlying3 g5
    obtain ⟨s6, e6, _, _⟩ := DataW.trod_string Tryz.underlying9 g6
    obtain ⟨n7, e7, _, w7⟩ := DataW.trod_int Tryz.underlying3 g7
    obtain ⟨n8, e8, _, w8⟩ := DataW.trod_int Tryz.underlying3 g8
    simp only [List.cons.injEq, and_true] at e0 e1 e2 e3 e4 e5 e6 e7 e8
    refine ⟨⟨n0, s1.data.toList, s2.data.toList, n3, n4, n5, s6.data.toList, n7, n8⟩, ?_, inI_of9 w0, inI_of9 w3, inI_of9 w4, inI_of9 w5⟩
    rw [e0, e1, e2, e3, e4, e5, e6, e7, e8]
    rfl
theorem fact_of {n : Nat} {cs : List Value} {x : DataW H × List MemPlace} (h : DataW.trod enc Tryz.prog w base spare held n 36 cs = some x) :
    ∃ a : FAct, cs = [.int .i64 a.owner, .bool a.out, .int .i64 a.op.kind, .string (bs a.op.path), .string (bs a.op.dst), .int .i64 a.op.h, .int .i64 a.op.at_, .int .i64 a.op.n, .string (bs a.op.data), .int .i64 a.op.pid, .int .i64 a.op.birth] ∧ FActIn a := by
  obtain ⟨xs, m, _, _, hlen, hxl, hf⟩ := DataW.trod_struct Tryz.underlying36 h
  rw [cells_act9] at hlen
  match cs, hlen, xs, hxl with
  | [v0, v1, v2, v3, v4, v5, v6, v7, v8, v9, v10], _, [y0, y1, y2], _ =>
    have g0 := hf 0 _ rfl; have g1 := hf 1 _ rfl; have g2 := hf 2 _ rfl
    simp [cells_int9, cells_bool9, cells_op9] at g0 g1 g2
    obtain ⟨n0, e0, _, w0⟩ := DataW.trod_int Tryz.underlying3 g0
    obtain ⟨b1, e1, _⟩ := DataW.trod_bool Tryz.underlying4 g1
    obtain ⟨o, e2, h0, h3, h4, h5⟩ := op_of g2
    simp only [List.cons.injEq, and_true] at e0 e1 e2
    obtain ⟨rfl, rfl, rfl, rfl, rfl, rfl, rfl, rfl, rfl⟩ := e2
    refine ⟨⟨n0, b1, o⟩, ?_, ⟨inI_of9 w0, h0, h3, h4, h5⟩⟩
    rw [e0, e1]
instance : Inhabited FAct := ⟨⟨0, false, ⟨0, [], [], 0, 0, 0, [], 0, 0⟩⟩⟩
theorem open_facts {n : Nat} {cs : List Value} {x : DataW H × List MemPlace} (h : DataW.trod enc Tryz.prog w 0 spare held n 22 cs = some x) :
    cs = [.slice none 0 0] ∨ ∃ (a : Addr) (cap : Nat) (l : List FAct), cs = [.slice (some a) l.length cap] ∧ l.length ≤ 9223372036854775807 ∧ FActsAt w (some a) l ∧ ∀ x ∈ l, FActIn x := by
  rcases open_slice Tryz.underlying22 h with ⟨h0, _⟩ | ⟨a, len, cap, m, k, D, Pl, rfl, _, hl, hm, hmm, _, hx⟩
  · exact .inl h0
  right
  have hlm : len ≤ m := by rw [hmm]; split <;> omega
  have hx' : ∀ i, i < len → ∃ y : FAct, w.cells? 0 (a.add (i * 11)) 11 = some [.int .i64 y.owner, .bool y.out, .int .i64 y.op.kind, .string (bs y.op.path), .string (bs y.op.dst), .int .i64 y.op.h, .int .i64 y.op.at_, .int .i64 y.op.n, .string (bs y.op.data), .int .i64 y.op.pid, .int .i64 y.op.birth] ∧ FActIn y := fun i hi => by
    obtain ⟨cs', h1, h2⟩ := hx i (by omega)
    rw [cells_act9] at h1
    obtain ⟨y, rfl, hy⟩ := fact_of h2
    exact ⟨y, h1, hy⟩
  obtain ⟨f, hf⟩ := choose_lt hx'
  have hmx : (maxLen : Nat) = 9223372036854775807 := rfl
  refine ⟨a, cap, (List.range len).map f, by simp, by simp; omega, ?_, fun x hx => ?_⟩
  · by_cases h0 : len = 0
    · exact .inl (by rw [h0]; rfl)
    right
    obtain ⟨b, o, spot⟩ := a
    have c00 := (World.cells?_some (hf 0 (by omega)).1).2.2 0 (by omega)
    have hspot : spot = none := by simpa [Addr.add] using World.cell?_spot c00
    subst hspot
    have hlt := World.block_lt_of_cell? w _ c00
    refine ⟨b, o, rfl, by simpa [Addr.add] using hlt, fun j hj => ?_⟩
    have hj' : j < len := by simpa using hj
    obtain ⟨_, _, hc⟩ := World.cells?_some (hf j hj').1
    simp only [List.getElem_map, List.getElem_range]
    have e : ∀ k, ((⟨b, o, none⟩ : Addr).add (j * 11)).add k = ⟨b, o + j * 11 + k, none⟩ := fun k => by rw [add_add, add_plain, Nat.add_assoc]
    have d0 := hc 0 (by omega); have d1 := hc 1 (by omega); have d2 := hc 2 (by omega); have d3 := hc 3 (by omega)
    have d4 := hc 4 (by omega); have d5 := hc 5 (by omega); have d6 := hc 6 (by omega); have d7 := hc 7 (by omega)
    have d8 := hc 8 (by omega); have d9 := hc 9 (by omega); have d10 := hc 10 (by omega)
    rw [e] at d0 d1 d2 d3 d4 d5 d6 d7 d8 d9 d10
    exact ⟨d0, d1, d2, d3, d4, d5, d6, d7, d8, d9, d10⟩
  · obtain ⟨i, hi, rfl⟩ := List.mem_map.1 hx
    exact (hf i (by simpa using hi)).2
end
end Go.Proofs.YtagdhghjcibfbaaGreatDoor

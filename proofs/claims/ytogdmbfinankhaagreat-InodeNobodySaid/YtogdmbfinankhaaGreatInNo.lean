/- Layer 8: the law InodeNobody's walk. -/
import Derived.Test.YtogdmbfinankhaaGreatInNd
import Derived.Test.YtogdmbfinankhaaGreatInNn
import Derived.Test.YtogdmbfinankhaaGreatInY
import Derived.Test.YtogdmbfinankhaaGreatInAct
import Derived.LoopTactic
import Derived.Deep.RegionHeld3
namespace Go.Proofs.YtogdmbfinankhaaGreat
open Go.RowKit
set_option linter.unusedVariables false
set_option linter.unusedSectionVars false
set_option maxRecDepth 100000

theorem actAt_bx {w : World} {b : Nat} {a : AcT} (h : BX w b a) : ActAt w b 0 a := ⟨h.c0, h.c1, h.c2, h.c3, h.c4, h.c5, h.c6, h.c7⟩
set_option maxHeartbeats 4000000 in
theorem lawNobody_any (a : AcT) (w : World) :
    Calls Tryz.prog 5 #[actV a] w fun e w' => e = .returned (.bool true) ∧ Below w.heap.size w w' := by
  obtain ⟨W0, hW0⟩ : ∃ W0, w.alloc (.cells #[.int .i64 a.kind, .int .i64 a.id, .int .i64 a.dir, .int .i64 a.at_, .int .i64 a.n, .string (bs a.name), .string (bs a.nm), .bool a.flag] 36) = W0 := ⟨_, rfl⟩
  have hb0 : Below w.heap.size w W0 := by rw [← hW0]; exact (Below.refl _ w).alloc (Nat.le_refl _) _
  have z0 : W0.heap.size = w.heap.size + 1 := by rw [← hW0]; simp
  have bx : BX W0 w.heap.size a := by rw [← hW0]; exact (MapKept.heap_alloc w _).1
  have x0 := bx.c0; have x1 := bx.c1; have x2 := bx.c2; have x3 := bx.c3; have x4 := bx.c4; have x5 := bx.c5; have x6 := bx.c6; have x7 := bx.c7
  obtain ⟨W1, hW1⟩ : ∃ W1, W0.alloc (.cells #[.int .i64 a.kind, .int .i64 a.id, .int .i64 a.dir, .int .i64 a.at_, .int .i64 a.n, .string (bs a.name), .string (bs a.nm), .bool a.flag] 36) = W1 := ⟨_, rfl⟩
  have hb1 : Below W0.heap.size W0 W1 := by rw [← hW1]; exact (Below.refl _ W0).alloc (Nat.le_refl _) _
  have z1 : W1.heap.size = w.heap.size + 2 := by rw [← hW1]; simp [z0]
  have bx1 : BX W1 W0.heap.size a := by rw [← hW1]; exact (MapKept.heap_alloc W0 _).1
  have CS : Hid (Calls Tryz.prog 6 #[.slice (some ⟨W0.heap.size, 0, none⟩) 1 1, .int .i64 1] W1 fun e w' => e = .returned (.bool (smallB [a] 1)) ∧ W1 = w') := Lib.hid (small_any (some ⟨W0.heap.size, 0, none⟩) [a] 1 W1 (.inr ⟨W0.heap.size, 0, rfl, by omega, fun j hj => by
    obtain rfl : j = 0 := by simpa using hj
    exact actAt_bx bx1⟩) (by simp) 1 (by decide))
  have AWK : Hid (∀ w0 : World, Calls Tryz.prog 7 #[] w0 fun e w' => e = .returned (.bool true) ∧ Below w0.heap.size w0 w') := Lib.hid awake8_any
  have HB1 := Lib.hid (hb0.trans (hb1.mono (by omega)))
  unfold actV
  cases hs : smallB [a] 1
  case false =>
    rw [hs] at CS
    clear bx bx1 hb0 hb1 z0 z1 hs
    go_enter Tryz.func5, Tryz.ntmps5
    go_wp2_with (first
      | (go_at_call 6; (with_reducible refine CS.out.mono ?_); rintro e w1 ⟨rfl, rfl⟩)
      | (go_at_call 7; (with_reducible refine (AWK.out _).mono ?_); rintro e w2 ⟨rfl, hb⟩; have HB2 := Lib.hid hb; clear hb))
    go_ret
    exact ⟨rfl, HB1.out.trans (HB2.out.mono HB1.out.size)⟩
  rw [hs] at CS
  obtain ⟨W2, hW2⟩ : ∃ W2, W1.alloc (.cells #[.int .i64 0, .int .i64 0, .int .i64 0, .map none] 50) = W2 := ⟨_, rfl⟩
  have z2 : W2.heap.size = w.heap.size + 3 := by rw [← hW2]; simp [z1]
  obtain ⟨W3, hW3⟩ : ∃ W3, W2.alloc (.cells #[.pointer none, .pointer (some ⟨W1.heap.size, 0, none⟩)] 25) = W3 := ⟨_, rfl⟩
  have z3 : W3.heap.size = w.heap.size + 4 := by rw [← hW3]; simp [z2]
  have hb2 : Below W1.heap.size W1 W2 := by rw [← hW2]; exact (Below.refl _ W1).alloc (Nat.le_refl _) _
  have hb3 : Below W2.heap.size W2 W3 := by rw [← hW3]; exact (Below.refl _ W2).alloc (Nat.le_refl _) _
  have hq : W2.heap[W1.heap.size]? = some (.cells #[.int .i64 0, .int .i64 0, .int .i64 0, .map none] 50 (0, 0)) := by rw [← hW2]; exact (MapKept.heap_alloc W1 _).1
  have hr : W3.heap[W2.heap.size]? = some (.cells #[.pointer none, .pointer (some ⟨W1.heap.size, 0, none⟩)] 25 (0, 0)) := by rw [← hW3]; exact (MapKept.heap_alloc W2 _).1
  have q1 : W2.cell? ⟨W1.heap.size, 1, none⟩ = some (.int .i64 0) := by simp [World.cell?, hq]
  have q3 : W2.cell? ⟨W1.heap.size, 3, none⟩ = some (.map none) := by simp [World.cell?, hq]
  have r0 : W3.cell? ⟨W2.heap.size, 0, none⟩ = some (.pointer none) := by simp [World.cell?, hr]
  have r1 : W3.cell? ⟨W2.heap.size, 1, none⟩ = some (.pointer (some ⟨W1.heap.size, 0, none⟩)) := by simp [World.cell?, hr]
  have q1' := (hb3.cell (show W1.heap.size < W2.heap.size by omega)).trans q1
  have q3' := (hb3.cell (show W1.heap.size < W2.heap.size by omega)).trans q3
  have hb13 : Below W0.heap.size W0 W3 := hb1.trans ((hb2.trans (hb3.mono (by omega))).mono (by omega))
  have bx3 : ActAt W3 w.heap.size 0 a := (actAt_bx bx).below hb13 (by omega)
  have HB3 := Lib.hid (HB1.out.trans ((hb2.trans (hb3.mono (by omega))).mono (by omega)))
  have F := Lib.hid (And.intro bx3 (And.intro q1' (And.intro q3' (And.intro r0 (And.intro r1 (And.intro z1 (And.intro z2 z3)))))))
  clear hq hr bx bx1 hb0 hb1 z0 z1 hs z2 z3 hb2 hb3 q1 q3 q1' q3' r0 r1 bx3 hb13
  go_enter Tryz.func5, Tryz.ntmps5
  go_wp2_with (first
    | (go_at_call 6; (with_reducible refine CS.out.mono ?_); rintro e w1 ⟨rfl, rfl⟩))
  go_loopw [4] (fun i wr => ∃ (k : Nat), i = .int .i64 k ∧ k ≤ 2 ∧ Hid (Below W3.heap.size W3 wr)) (fun i _ => 2 - (intOf i).toNat)
  case atStart => exact ⟨0, rfl, Nat.zero_le _, Lib.hid (Below.refl _ _)⟩
  case round =>
    obtain ⟨k, rfl, hk, HBR⟩ := hrel
    by_cases hlt : k < 2
    · obtain ⟨ba, c1, c3, p0, p1, z1, z2, z3⟩ := F.out
      obtain ⟨p, hp, hn, hpl, hpz⟩ : ∃ p, W3.cell? ⟨W2.heap.size, k, none⟩ = some (.pointer p) ∧ Nob W3 p ∧ (∀ a, p = some a → a.block < W3.heap.size) ∧ (∀ a, p = some a → W3.cell? ⟨a.block, 1, none⟩ = some (.int .i64 0)) := by
        have : k = 0 ∨ k = 1 := by omega
        rcases this with rfl | rfl
        · exact ⟨none, p0, .inl rfl, fun a h => (by cases h), fun a h => (by cases h)⟩
        · exact ⟨_, p1, .inr ⟨_, rfl, c3⟩, fun a h => (by cases h; show W1.heap.size < W3.heap.size; omega), fun a h => (by cases h; exact c1)⟩
      have FA : Hid (∀ w' : World, Below W3.heap.size W3 w' → w'.cell? ⟨W2.heap.size, k, none⟩ = some (.pointer p) ∧ w'.cell? ⟨w.heap.size, 0, none⟩ = some (.int .i64 a.kind) ∧ w'.cell? ⟨w.heap.size, 1, none⟩ = some (.int .i64 a.id) ∧ w'.cell? ⟨w.heap.size, 2, none⟩ = some (.int .i64 a.dir) ∧ w'.cell? ⟨w.heap.size, 3, none⟩ = some (.int .i64 a.at_) ∧ w'.cell? ⟨w.heap.size, 4, none⟩ = some (.int .i64 a.n) ∧ w'.cell? ⟨w.heap.size, 5, none⟩ = some (.string (bs a.name)) ∧ w'.cell? ⟨w.heap.size, 6, none⟩ = some (.string (bs a.nm)) ∧ w'.cell? ⟨w.heap.size, 7, none⟩ = some (.bool a.flag)) := Lib.hid (fun w' hb => by
        have b' := ba.below hb (by omega)
        exact ⟨(hb.cell (show W2.heap.size < W3.heap.size by omega)).trans hp, b'.c0, b'.c1, b'.c2, b'.c3, b'.c4, b'.c5, b'.c6, b'.c7⟩)
      have CD : Hid (∀ w' : World, Below W3.heap.size W3 w' → Calls Tryz.prog 11 #[.pointer p, .agg #[.int .i64 a.kind, .int .i64 a.id, .int .i64 a.dir, .int .i64 a.at_, .int .i64 a.n, .string (bs a.name), .string (bs a.nm), .bool a.flag]] w' fun e w2 => e = .returned (.tuple #[.int .i64 0, .string ⟨#[]⟩, .int .i64 1]) ∧ Below W3.heap.size W3 w2) := Lib.hid (fun w' hb => (nbdo_any (hn.below hb hpl) (fun a ha => Nat.lt_of_lt_of_le (hpl a ha) hb.size) a).mono fun e w2 ⟨he, h2⟩ => ⟨he, hb.trans (h2.mono hb.size)⟩)
      have CU : Hid (∀ w' : World, Below W3.heap.size W3 w' → Calls Tryz.prog 13 #[.pointer p] w' fun e w2 => e = .returned (.int .i64 0) ∧ w2 = w') := Lib.hid (fun w' hb => nb_Used (hn.below hb hpl) (fun a ha => (hb.cell (p := ⟨a.block, 1, none⟩) (show a.block < W3.heap.size from hpl a ha)).trans (hpz a ha)))
      have CN : Hid (∀ w' : World, Below W3.heap.size W3 w' → Calls Tryz.prog 16 #[.pointer p] w' fun e w2 => (∃ a c, e = .returned (.slice a 0 c)) ∧ Below W3.heap.size W3 w2) := Lib.hid (fun w' hb => (nb_Nodes (hn.below hb hpl)).mono fun e w2 ⟨he, h2⟩ => ⟨he, hb.trans (h2.mono hb.size)⟩)
      have CC : Hid (∀ w' : World, Below W3.heap.size W3 w' → Calls Tryz.prog 10 #[.pointer p] w' fun e w2 => e = .returned (.pointer none) ∧ w2 = w') := Lib.hid (fun w' hb => nb_Clone (hn.below hb hpl))
      clear ba c1 c3 p0 p1 z1 z2 z3 hp hn hpl hpz F x0 x1 x2 x3 x4 x5 x6 x7 hW0 hW1 hW2 hW3 CS
      obtain ⟨f0, f1, f2, f3, f4, f5, f6, f7, f8⟩ := FA.out wr HBR.out
      go_wp2_with fail
      have HBD := Lib.hid (HBR.out.drew)
      go_region_held3 (fun w' => w'.cell? ⟨W2.heap.size, k, none⟩ = some (.pointer p) ∧ w'.cell? ⟨w.heap.size, 0, none⟩ = some (.int .i64 a.kind) ∧ w'.cell? ⟨w.heap.size, 1, none⟩ = some (.int .i64 a.id) ∧ w'.cell? ⟨w.heap.size, 2, none⟩ = some (.int .i64 a.dir) ∧ w'.cell? ⟨w.heap.size, 3, none⟩ = some (.int .i64 a.at_) ∧ w'.cell? ⟨w.heap.size, 4, none⟩ = some (.int .i64 a.n) ∧ w'.cell? ⟨w.heap.size, 5, none⟩ = some (.string (bs a.name)) ∧ w'.cell? ⟨w.heap.size, 6, none⟩ = some (.string (bs a.nm)) ∧ w'.cell? ⟨w.heap.size, 7, none⟩ = some (.bool a.flag) ∧ Below W3.heap.size W3 w')
        (first | exact ⟨f0, f1, f2, f3, f4, f5, f6, f7, f8, HBD.out⟩ | (obtain ⟨g0, g1, g2, g3, g4, g5, g6, g7, g8⟩ := FA.out _ hbc; exact ⟨g0, g1, g2, g3, g4, g5, g6, g7, g8, hbc⟩) | (go_split_ands; obtain ⟨g0, g1, g2, g3, g4, g5, g6, g7, g8⟩ := FA.out _ hbc; exact ⟨g0, g1, g2, g3, g4, g5, g6, g7, g8, hbc⟩) | go_keep)
        (first | (go_at_call 11; (with_reducible refine (CD.out _ HBD.out).mono ?_); rintro e wc ⟨rfl, hbc⟩))
      have HC := Lib.hid hbc
      have g0 := (FA.out _ hbc).1
      clear hbc f0 f1 f2 f3 f4 f5 f6 f7 f8 HBR HBD
      go_wp2_with (first
        | (go_at_call 13; (with_reducible refine (CU.out _ HC.out).mono ?_); rintro e wd ⟨rfl, rfl⟩)
        | (go_at_call 16; (with_reducible refine (CN.out _ HC.out).mono ?_); rintro e we ⟨⟨na, nc, rfl⟩, hbe⟩; have HE := Lib.hid hbe; have g1 := (FA.out _ hbe).1; clear hbe)
        | (go_at_call 10; (with_reducible refine (CC.out _ HE.out).mono ?_); rintro e wf ⟨rfl, rfl⟩))
      go_roundw
      case rel => exact ⟨k + 1, by go_num, by omega, HE⟩
      case measure => simp [intOf]; omega
    · obtain rfl : k = 2 := by omega
      clear hW0 hW1 hW2 hW3
      go_wp2_with (first
        | (go_at_call 7; (with_reducible refine (AWK.out _).mono ?_); rintro e w2 ⟨rfl, hb⟩; have HB2 := Lib.hid hb; clear hb))
      go_ret
      have := HB3.out.trans (HBR.out.mono HB3.out.size)
      exact ⟨rfl, this.trans (HB2.out.mono this.size)⟩
end Go.Proofs.YtogdmbfinankhaaGreat

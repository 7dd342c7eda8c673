/- Layer 9: Do, kind by kind. Layer 9: Do: open, list, use, remove, unlink; every operation. Layer 9: Do: remove, unlink; every operation. -/
import Derived.Test.YtagdhghjcibfbaaGreatDoorFF2
import Derived.Test.YtagdhghjcibfbaaGreatDoorFF4
import Derived.Deep.RegionHeld3
namespace Go.Proofs.YtagdhghjcibfbaaGreatDoor
open Go.RowKit
set_option linter.unusedVariables false
set_option linter.unusedSectionVars false
set_option maxRecDepth 100000

/-- What Do answers, and leaves. -/
def DoR (w : World) (fb t hb : Nat) (S : Nat → Prop) (N : Nat) (F' : Fs) (r : ResT) (e : Ending) (w' : World) : Prop :=
  ∃ a n c, e = .returned (.agg #[.int .i64 r.err, .int .i64 r.n, .string (bs r.data), .slice a n c]) ∧ Sl w' (.slice a n c) r.names ∧ FsP w fb t hb F' S N w'
section
variable {w : World} {fb t hb : Nat} {F : Fs} {S : Nat → Prop} {N : Nat} (h : FsAt w fb t hb F S N) (hN : N < 999999000)
include h hN
theorem clo1_any {w1 : World} (hb1 : Below w.heap.size w w1) {b3 b5 : Nat} {op : OpT} (ok : OpOk op) (k3 : w1.cell? ⟨b3, 0, none⟩ = some (.pointer (some ⟨fb, 0, none⟩))) (bx : OB w1 b5 op) :
    Calls Tryz.prog 23 #[.pointer (some ⟨b3, 0, none⟩), .pointer (some ⟨b5, 0, none⟩)] w1 fun e w' => e = .returned (.tuple #[.int .i64 (F.T.create op.path false).2.1, .int .i64 (F.T.create op.path false).2.2]) ∧ FsP w1 fb t hb ⟨(F.T.create op.path false).1, F.H⟩ S (N + 1) w' := by
  have CC := Lib.hid (fs_create (h.below hb1) (by omega) op.path ok.path false)
  have c1 := bx.c1
  generalize F.T.create op.path false = r at *
  clear h hN hb1 ok bx
  go_enter Tryz.func23, Tryz.ntmps23
  go_wp2_with (go_at_call 19; (with_reducible refine CC.out.mono ?_); rintro e w2 ⟨rfl, hp⟩; have HP := Lib.hid hp; clear hp)
  go_ret2
  exact ⟨rfl, HP.out⟩
theorem clo2_any {w1 : World} (hb1 : Below w.heap.size w w1) {b3 b5 : Nat} {op : OpT} (ok : OpOk op) (k3 : w1.cell? ⟨b3, 0, none⟩ = some (.pointer (some ⟨fb, 0, none⟩))) (bx : OB w1 b5 op) :
    Calls Tryz.prog 24 #[.pointer (some ⟨b3, 0, none⟩), .pointer (some ⟨b5, 0, none⟩)] w1 fun e w' => e = .returned (.tuple #[.int .i64 (F.T.find op.path).1, .int .i64 (F.T.find op.path).2]) ∧ FsP w1 fb t hb ⟨F.T, F.H⟩ S (N + 1) w' := by
  have CC := Lib.hid (fs_find (h.below hb1) (by omega) op.path ok.path)
  have H1 := Lib.hid (h.below hb1)
  have c1 := bx.c1
  generalize F.T.find op.path = r at *
  clear h hN hb1 ok bx
  go_enter Tryz.func24, Tryz.ntmps24
  go_wp2_with (go_at_call 25; (with_reducible refine CC.out.mono ?_); rintro e w2 ⟨rfl, hb⟩; have HB := Lib.hid hb; clear hb)
  go_ret2
  exact ⟨rfl, (FsP.of_below H1.out HB.out).up (Nat.le_succ _)⟩
set_option maxHeartbeats 2000000 in
theorem do_no {o : Int} (ho : InI o) (op : OpT) (ok : OpOk op) (hm : mayB op = false) :
    Calls Tryz.prog 9 #[.pointer (some ⟨fb, 0, none⟩), .int .i64 o, opV op] w (DoR w fb t hb S (N + 3) F (errR 1)) := by
  obtain ⟨W0, hW0⟩ : ∃ W0, ((w.alloc (.cells #[.pointer (some ⟨fb, 0, none⟩)] 23)).alloc (.cells #[.int .i64 op.kind, .string (bs op.path), .string (bs op.dst), .int .i64 op.h, .int .i64 op.at_, .int .i64 op.n, .string (bs op.data), .int .i64 op.pid, .int .i64 op.birth] 34)).alloc (.cells #[.int .i64 0, .int .i64 0, .string ⟨#[]⟩, .slice none 0 0] 31) = W0 := ⟨_, rfl⟩
  have hb0 : Below w.heap.size w W0 := by rw [← hW0]; exact (((Below.refl _ w).alloc (Nat.le_refl _) _).alloc (by simp) _).alloc (by simp; omega) _
  have hs0 : W0.heap.size = w.heap.size + 3 := by rw [← hW0]; simp
  have k3 : W0.cell? ⟨w.heap.size, 0, none⟩ = some (.pointer (some ⟨fb, 0, none⟩)) := by
    rw [← hW0, World.cell?_alloc_lt _ _ _ (by simp; omega), World.cell?_alloc_lt _ _ _ (by simp)]; exact World.cell?_alloc_new w _ _ _
  have bx : OB W0 (w.heap.size + 1) op := by
    have := (MapKept.heap_alloc (w.alloc (.cells #[.pointer (some ⟨fb, 0, none⟩)] 23)) (.cells #[.int .i64 op.kind, .string (bs op.path), .string (bs op.dst), .int .i64 op.h, .int .i64 op.at_, .int .i64 op.n, .string (bs op.data), .int .i64 op.pid, .int .i64 op.birth] 34)).1
    rw [show (w.alloc (.cells #[.pointer (some ⟨fb, 0, none⟩)] 23)).heap.size = w.heap.size + 1 by simp] at this
    rw [← hW0]
    exact (Below.heap_alloc _ _ _ (by simp)).trans this
  have r0 : RS W0 (w.heap.size + 2) (.int .i64 0) (.int .i64 0) (.string ⟨#[]⟩) (.slice none 0 0) := by
    have := (MapKept.heap_alloc ((w.alloc (.cells #[.pointer (some ⟨fb, 0, none⟩)] 23)).alloc (.cells #[.int .i64 op.kind, .string (bs op.path), .string (bs op.dst), .int .i64 op.h, .int .i64 op.at_, .int .i64 op.n, .string (bs op.data), .int .i64 op.pid, .int .i64 op.birth] 34)) (.cells #[.int .i64 0, .int .i64 0, .string ⟨#[]⟩, .slice none 0 0] 31)).1
    rw [hW0, show ((w.alloc (.cells #[.pointer (some ⟨fb, 0, none⟩)] 23)).alloc (.cells #[.int .i64 op.kind, .string (bs op.path), .string (bs op.dst), .int .i64 op.h, .int .i64 op.at_, .int .i64 op.n, .string (bs op.data), .int .i64 op.pid, .int .i64 op.birth] 34)).heap.size = w.heap.size + 2 by simp] at this
    exact this
  have CM := Lib.hid (made_any (h.below hb0).fs)
  have CY := Lib.hid (may_any op ok W0)
  have H := Lib.hid h
  have HB0 := Lib.hid hb0
  have HS0 := Lib.hid hs0
  have R0 := Lib.hid r0
  have BX := Lib.hid bx
  have K3 := Lib.hid k3
  have x0 := bx.c0; have x1 := bx.c1; have x2 := bx.c2; have x3 := bx.c3; have x4 := bx.c4; have x5 := bx.c5; have x6 := bx.c6; have x7 := bx.c7; have x8 := bx.c8
  rw [hm] at CY
  unfold opV at CY ⊢
  clear bx hb0 r0 hs0 h ok hm
  go_enter Tryz.func9, Tryz.ntmps9
  go_wp2_with (first
    | (go_at_call 17; (with_reducible refine CM.out.mono ?_); rintro e w9 ⟨rfl, hw⟩; obtain rfl : W0 = w9 := hw.symm; clear hw)
    | (go_at_call 18; (with_reducible refine CY.out.mono ?_); rintro e w1 ⟨rfl, hb⟩; have HB1 := Lib.hid hb; have r1 := R0.out.below hb; have R1 := Lib.hid r1; have y0 := r1.c0; have y1 := r1.c1; have y2 := r1.c2; have y3 := r1.c3; have g0 := r1.fr 0; have g1 := r1.fr 1; have g2 := r1.fr 2; have g3 := r1.fr 3; clear x0 x1 x2 x3 x4 x5 x6 x7 x8 hb k3 r1; refine Hid.out ?_))
  refine Lib.hid ?_
  go_wp2_with fail
  refine ret_res rfl rfl rfl (R1.out.set4 (.int .i64 1) (.int .i64 0) (.string ⟨#[]⟩) (.slice none 0 0)) ⟨none, 0, 0, rfl, Sl_nil _, (FsP.own H.out ?_).up (by omega)⟩
  exact Ch.below (M := fun x => x = w.heap.size + 2) (ch_set4 _ _ _ _ _ _ rfl) (HB0.out.trans (HB1.out.mono HB0.out.size)) (Nat.le_trans HB0.out.size HB1.out.size) (fun x hx e => by omega)
set_option maxHeartbeats 2000000 in
theorem do_1 {o : Int} (ho : InI o) (op : OpT) (ok : OpOk op) (hm : mayB op = true) (hk : op.kind = 1) :
    Calls Tryz.prog 9 #[.pointer (some ⟨fb, 0, none⟩), .int .i64 o, opV op] w (DoR w fb t hb S (N + 3) ⟨(F.T.create op.path true).1, F.H⟩ (errR (F.T.create op.path true).2.2)) := by
  obtain ⟨W0, hW0⟩ : ∃ W0, ((w.alloc (.cells #[.pointer (some ⟨fb, 0, none⟩)] 23)).alloc (.cells #[.int .i64 op.kind, .string (bs op.path), .string (bs op.dst), .int .i64 op.h, .int .i64 op.at_, .int .i64 op.n, .string (bs op.data), .int .i64 op.pid, .int .i64 op.birth] 34)).alloc (.cells #[.int .i64 0, .int .i64 0, .string ⟨#[]⟩, .slice none 0 0] 31) = W0 := ⟨_, rfl⟩
  have hb0 : Below w.heap.size w W0 := by rw [← hW0]; exact (((Below.refl _ w).alloc (Nat.le_refl _) _).alloc (by simp) _).alloc (by simp; omega) _
  have hs0 : W0.heap.size = w.heap.size + 3 := by rw [← hW0]; simp
  have k3 : W0.cell? ⟨w.heap.size, 0, none⟩ = some (.pointer (some ⟨fb, 0, none⟩)) := by
    rw [← hW0, World.cell?_alloc_lt _ _ _ (by simp; omega), World.cell?_alloc_lt _ _ _ (by simp)]; exact World.cell?_alloc_new w _ _ _
  have bx : OB W0 (w.heap.size + 1) op := by
    have := (MapKept.heap_alloc (w.alloc (.cells #[.pointer (some ⟨fb, 0, none⟩)] 23)) (.cells #[.int .i64 op.kind, .string (bs op.path), .string (bs op.dst), .int .i64 op.h, .int .i64 op.at_, .int .i64 op.n, .string (bs op.data), .int .i64 op.pid, .int .i64 op.birth] 34)).1
    rw [show (w.alloc (.cells #[.pointer (some ⟨fb, 0, none⟩)] 23)).heap.size = w.heap.size + 1 by simp] at this
    rw [← hW0]
    exact (Below.heap_alloc _ _ _ (by simp)).trans this
  have r0 : RS W0 (w.heap.size + 2) (.int .i64 0) (.int .i64 0) (.string ⟨#[]⟩) (.slice none 0 0) := by
    have := (MapKept.heap_alloc ((w.alloc (.cells #[.pointer (some ⟨fb, 0, none⟩)] 23)).alloc (.cells #[.int .i64 op.kind, .string (bs op.path), .string (bs op.dst), .int .i64 op.h, .int .i64 op.at_, .int .i64 op.n, .string (bs op.data), .int .i64 op.pid, .int .i64 op.birth] 34)) (.cells #[.int .i64 0, .int .i64 0, .string ⟨#[]⟩, .slice none 0 0] 31)).1
    rw [hW0, show ((w.alloc (.cells #[.pointer (some ⟨fb, 0, none⟩)] 23)).alloc (.cells #[.int .i64 op.kind, .string (bs op.path), .string (bs op.dst), .int .i64 op.h, .int .i64 op.at_, .int .i64 op.n, .string (bs op.data), .int .i64 op.pid, .int .i64 op.birth] 34)).heap.size = w.heap.size + 2 by simp] at this
    exact this
  have CM := Lib.hid (made_any (h.below hb0).fs)
  have CY := Lib.hid (may_any op ok W0)
  have H := Lib.hid h
  have HB0 := Lib.hid hb0
  have HS0 := Lib.hid hs0
  have R0 := Lib.hid r0
  have BX := Lib.hid bx
  have K3 := Lib.hid k3
  have x0 := bx.c0; have x1 := bx.c1; have x2 := bx.c2; have x3 := bx.c3; have x4 := bx.c4; have x5 := bx.c5; have x6 := bx.c6; have x7 := bx.c7; have x8 := bx.c8
  have AFTER : Hid (∀ w1, Below W0.heap.size W0 w1 → ∃ W2, w1.alloc (.cells #[.int .i64 0, .int .i64 0, .string ⟨#[]⟩, .slice none 0 0] 31) = W2 ∧ Below w.heap.size w W2 ∧ W2.heap.size = w1.heap.size + 1 ∧ w.heap.size + 3 ≤ w1.heap.size ∧ FsAt W2 fb t hb F S N ∧ W2.cell? ⟨w.heap.size, 0, none⟩ = some (.pointer (some ⟨fb, 0, none⟩)) ∧ OB W2 (w.heap.size + 1) op ∧ RS W2 (w.heap.size + 2) (.int .i64 0) (.int .i64 0) (.string ⟨#[]⟩) (.slice none 0 0) ∧ RS W2 w1.heap.size (.int .i64 0) (.int .i64 0) (.string ⟨#[]⟩) (.slice none 0 0)) := by
    refine Lib.hid fun w1 hb1 => ?_
    have hb2 : Below W0.heap.size W0 (w1.alloc (.cells #[.int .i64 0, .int .i64 0, .string ⟨#[]⟩, .slice none 0 0] 31)) := hb1.alloc hb1.size _
    have hbw : Below w.heap.size w (w1.alloc (.cells #[.int .i64 0, .int .i64 0, .string ⟨#[]⟩, .slice none 0 0] 31)) := hb0.trans (hb2.mono hb0.size)
    exact ⟨_, rfl, hbw, by simp, by have := hb1.size; omega, h.below hbw, (hb2.cell (p := ⟨w.heap.size, 0, none⟩) (by show w.heap.size < _; omega)).trans k3, bx.below hb2, r0.below hb2, (MapKept.heap_alloc w1 _).1⟩
  rw [hm] at CY
  have NS : Hid (∀ b, w.heap.size ≤ b → ¬ S b) := Lib.hid fun b hb e => by have := h.lt _ e; omega
  have CC : Hid (∀ w2, FsAt w2 fb t hb F S N → Calls Tryz.prog 19 #[.pointer (some ⟨fb, 0, none⟩), .string (bs op.path), .bool true] w2 fun e w' => e = .returned (.tuple #[.int .i64 (F.T.create op.path true).2.1, .int .i64 (F.T.create op.path true).2.2]) ∧ FsP w2 fb t hb ⟨(F.T.create op.path true).1, F.H⟩ S (N + 1) w') := Lib.hid fun w2 h2 => fs_create h2 (by omega) op.path ok.path true
  generalize (F.T.create op.path true).2.2 = er at *
  generalize F.T.create op.path true = r at *
  have HK := Lib.hid hk
  clear hm hk ok
  unfold opV at CY ⊢
  clear bx hb0 r0 hs0 h
  go_enter Tryz.func9, Tryz.ntmps9
  go_wp2_with (first
    | (go_at_call 17; (with_reducible refine CM.out.mono ?_); rintro e w9 ⟨rfl, hw⟩; obtain rfl : W0 = w9 := hw.symm; clear hw)
    | (go_at_call 18; (with_reducible refine CY.out.mono ?_); rintro e w1 ⟨rfl, hb⟩; obtain ⟨W2, hW2, h1, h2, h3, h4, h5, h6, h7, h8⟩ := AFTER.out _ hb; have HBW := Lib.hid h1; have HSZ := Lib.hid (And.intro h2 h3); have HF := Lib.hid h4; have j3 := h5; have J3 := Lib.hid h5; have BX2 := Lib.hid h6; have R2 := Lib.hid h7; have Q2 := Lib.hid h8; have z0 := h6.c0; have z1 := h6.c1; have z2 := h6.c2; clear x0 x1 x2 x3 x4 x5 x6 x7 x8 h1 h2 h3 h4 h5 h6 h7 h8 hb k3; refine Hid.out ?_))
  refine Lib.hid ?_
  rw [HK.out] at z0
  go_wp2_with (first
    | (go_at_call 19; (with_reducible refine (CC.out _ HF.out).mono ?_); rintro e w3 ⟨rfl, hp⟩; have HP := Lib.hid hp; have qa := Q2.out.ch hp.ch (NS.out _ (by have := HSZ.out; omega)); have ra := R2.out.ch hp.ch (NS.out _ (by omega)); have v0 := qa.c0; have g0 := qa.fr 0; have HG : Hid (Ch (fun b => b = w1.heap.size) w3 (w3.setCell ⟨w1.heap.size, 0, none⟩ (.int .i64 er))) := Lib.hid (Ch.set _ ⟨w1.heap.size, 0, none⟩ _ rfl); have qa2 := qa.s0 (y := .int .i64 er); have ra2 := ra.ch HG.out (by have := HSZ.out; omega); obtain ⟨W3, hW3⟩ : ∃ W3, w3.setCell ⟨w1.heap.size, 0, none⟩ (.int .i64 er) = W3 := ⟨_, rfl⟩; rw [hW3] at HG qa2 ra2; have RA := Lib.hid ra2; have u0 := qa2.c0; have u1 := qa2.c1; have u2 := qa2.c2; have u3 := qa2.c3; have y0 := ra2.c0; have y1 := ra2.c1; have y2 := ra2.c2; have y3 := ra2.c3; have f0 := ra2.fr 0; have f1 := ra2.fr 1; have f2 := ra2.fr 2; have f3 := ra2.fr 3; clear hp qa ra qa2 ra2; refine Hid.out ?_))
  refine Lib.hid ?_
  go_wp2_with fail
  refine ret_res rfl rfl rfl (RA.out.set4 (.int .i64 er) (.int .i64 0) (.string ⟨#[]⟩) (.slice none 0 0)) ⟨none, 0, 0, rfl, Sl_nil _, ?_⟩
  exact (FsP.after HBW.out H.out HP.out (M := fun x => x = w1.heap.size ∨ x = w.heap.size + 2) (fun x e => by have := HSZ.out; rcases e with e | e <;> omega) ((HG.out.mono (fun x _ e => .inl e)).trans (ch_set4 (M := fun x => x = w.heap.size + 2) W3 (w.heap.size + 2) _ _ _ _ rfl) (fun x _ e => .inr e))).up (by omega)
set_option maxHeartbeats 2000000 in
theorem do_10 {o : Int} (ho : InI o) (op : OpT) (ok : OpOk op) (hm : mayB op = true) (hk : op.kind = 10) :
    Calls Tryz.prog 9 #[.pointer (some ⟨fb, 0, none⟩), .int .i64 o, opV op] w (DoR w fb t hb S (N + 3) ⟨(F.T.linkP op.path op.dst).1, F.H⟩ (errR (F.T.linkP op.path op.dst).2)) := by
  obtain ⟨W0, hW0⟩ : ∃ W0, ((w.alloc (.cells #[.pointer (some ⟨fb, 0, none⟩)] 23)).alloc (.cells #[.int .i64 op.kind, .string (bs op.path), .string (bs op.dst), .int .i64 op.h, .int .i64 op.at_, .int .i64 op.n, .string (bs op.data), .int .i64 op.pid, .int .i64 op.birth] 34)).alloc (.cells #[.int .i64 0, .int .i64 0, .string ⟨#[]⟩, .slice none 0 0] 31) = W0 := ⟨_, rfl⟩
  have hb0 : Below w.heap.size w W0 := by rw [← hW0]; exact (((Below.refl _ w).alloc (Nat.le_refl _) _).alloc (by simp) _).alloc (by simp; omega) _
  have hs0 : W0.heap.size = w.heap.size + 3 := by rw [← hW0]; simp
  have k3 : W0.cell? ⟨w.heap.size, 0, none⟩ = some (.pointer (some ⟨fb, 0, none⟩)) := by
    rw [← hW0, World.cell?_alloc_lt _ _ _ (by simp; omega), World.cell?_alloc_lt _ _ _ (by simp)]; exact World.cell?_alloc_new w _ _ _
  have bx : OB W0 (w.heap.size + 1) op := by
    have := (MapKept.heap_alloc (w.alloc (.cells #[.pointer (some ⟨fb, 0, none⟩)] 23)) (.cells #[.int .i64 op.kind, .string (bs op.path), .string (bs op.dst), .int .i64 op.h, .int .i64 op.at_, .int .i64 op.n, .string (bs op.data), .int .i64 op.pid, .int .i64 op.birth] 34)).1
    rw [show (w.alloc (.cells #[.pointer (some ⟨fb, 0, none⟩)] 23)).heap.size = w.heap.size + 1 by simp] at this
    rw [← hW0]
    exact (Below.heap_alloc _ _ _ (by simp)).trans this
  have r0 : RS W0 (w.heap.size + 2) (.int .i64 0) (.int .i64 0) (.string ⟨#[]⟩) (.slice none 0 0) := by
    have := (MapKept.heap_alloc ((w.alloc (.cells #[.pointer (some ⟨fb, 0, none⟩)] 23)).alloc (.cells #[.int .i64 op.kind, .string (bs op.path), .string (bs op.dst), .int .i64 op.h, .int .i64 op.at_, .int .i64 op.n, .string (bs op.data), .int .i64 op.pid, .int .i64 op.birth] 34)) (.cells #[.int .i64 0, .int .i64 0, .string ⟨#[]⟩, .slice none 0 0] 31)).1
    rw [hW0, show ((w.alloc (.cells #[.pointer (some ⟨fb, 0, none⟩)] 23)).alloc (.cells #[.int .i64 op.kind, .string (bs op.path), .string (bs op.dst), .int .i64 op.h, .int .i64 op.at_, .int .i64 op.n, .string (bs op.data), .int .i64 op.pid, .int .i64 op.birth] 34)).heap.size = w.heap.size + 2 by simp] at this
    exact this
  have CM := Lib.hid (made_any (h.below hb0).fs)
  have CY := Lib.hid (may_any op ok W0)
  have H := Lib.hid h
  have HB0 := Lib.hid hb0
  have HS0 := Lib.hid hs0
  have R0 := Lib.hid r0
  have BX := Lib.hid bx
  have K3 := Lib.hid k3
  have x0 := bx.c0; have x1 := bx.c1; have x2 := bx.c2; have x3 := bx.c3; have x4 := bx.c4; have x5 := bx.c5; have x6 := bx.c6; have x7 := bx.c7; have x8 := bx.c8
  have AFTER : Hid (∀ w1, Below W0.heap.size W0 w1 → ∃ W2, w1.alloc (.cells #[.int .i64 0, .int .i64 0, .string ⟨#[]⟩, .slice none 0 0] 31) = W2 ∧ Below w.heap.size w W2 ∧ W2.heap.size = w1.heap.size + 1 ∧ w.heap.size + 3 ≤ w1.heap.size ∧ FsAt W2 fb t hb F S N ∧ W2.cell? ⟨w.heap.size, 0, none⟩ = some (.pointer (some ⟨fb, 0, none⟩)) ∧ OB W2 (w.heap.size + 1) op ∧ RS W2 (w.heap.size + 2) (.int .i64 0) (.int .i64 0) (.string ⟨#[]⟩) (.slice none 0 0) ∧ RS W2 w1.heap.size (.int .i64 0) (.int .i64 0) (.string ⟨#[]⟩) (.slice none 0 0)) := by
    refine Lib.hid fun w1 hb1 => ?_
    have hb2 : Below W0.heap.size W0 (w1.alloc (.cells #[.int .i64 0, .int .i64 0, .string ⟨#[]⟩, .slice none 0 0] 31)) := hb1.alloc hb1.size _
    have hbw : Below w.heap.size w (w1.alloc (.cells #[.int .i64 0, .int .i64 0, .string ⟨#[]⟩, .slice none 0 0] 31)) := hb0.trans (hb2.mono hb0.size)
    exact ⟨_, rfl, hbw, by simp, by have := hb1.size; omega, h.below hbw, (hb2.cell (p := ⟨w.heap.size, 0, none⟩) (by show w.heap.size < _; omega)).trans k3, bx.below hb2, r0.below hb2, (MapKept.heap_alloc w1 _).1⟩
  rw [hm] at CY
  have NS : Hid (∀ b, w.heap.size ≤ b → ¬ S b) := Lib.hid fun b hb e => by have := h.lt _ e; omega
  have CC : Hid (∀ w2, FsAt w2 fb t hb F S N → Calls Tryz.prog 26 #[.pointer (some ⟨fb, 0, none⟩), .string (bs op.path), .string (bs op.dst)] w2 fun e w' => e = .returned (.int .i64 (F.T.linkP op.path op.dst).2) ∧ FsP w2 fb t hb ⟨(F.T.linkP op.path op.dst).1, F.H⟩ S (N + 1) w') := Lib.hid fun w2 h2 => fs_link h2 (by omega) op.path op.dst ok.path ok.dst
  generalize (F.T.linkP op.path op.dst).2 = er at *
  generalize (F.T.linkP op.path op.dst).1 = T1 at *
  have HK := Lib.hid hk
  clear hm hk ok
  unfold opV at CY ⊢
  clear bx hb0 r0 hs0 h
  go_enter Tryz.func9, Tryz.ntmps9
  go_wp2_with (first
    | (go_at_call 17; (with_reducible refine CM.out.mono ?_); rintro e w9 ⟨rfl, hw⟩; obtain rfl : W0 = w9 := hw.symm; clear hw)
    | (go_at_call 18; (with_reducible refine CY.out.mono ?_); rintro e w1 ⟨rfl, hb⟩; obtain ⟨W2, hW2, h1, h2, h3, h4, h5, h6, h7, h8⟩ := AFTER.out _ hb; have HBW := Lib.hid h1; have HSZ := Lib.hid (And.intro h2 h3); have HF := Lib.hid h4; have j3 := h5; have J3 := Lib.hid h5; have BX2 := Lib.hid h6; have R2 := Lib.hid h7; have Q2 := Lib.hid h8; have z0 := h6.c0; have z1 := h6.c1; have z2 := h6.c2; clear x0 x1 x2 x3 x4 x5 x6 x7 x8 h1 h2 h3 h4 h5 h6 h7 h8 hb k3; refine Hid.out ?_))
  refine Lib.hid ?_
  rw [HK.out] at z0
  go_wp2_with (first
    | (go_at_call 26; (with_reducible refine (CC.out _ HF.out).mono ?_); rintro e w3 ⟨rfl, hp⟩; have HP := Lib.hid hp; have qa := Q2.out.ch hp.ch (NS.out _ (by have := HSZ.out; omega)); have ra := R2.out.ch hp.ch (NS.out _ (by omega)); have v0 := qa.c0; have g0 := qa.fr 0; have HG : Hid (Ch (fun b => b = w1.heap.size) w3 (w3.setCell ⟨w1.heap.size, 0, none⟩ (.int .i64 er))) := Lib.hid (Ch.set _ ⟨w1.heap.size, 0, none⟩ _ rfl); have qa2 := qa.s0 (y := .int .i64 er); have ra2 := ra.ch HG.out (by have := HSZ.out; omega); obtain ⟨W3, hW3⟩ : ∃ W3, w3.setCell ⟨w1.heap.size, 0, none⟩ (.int .i64 er) = W3 := ⟨_, rfl⟩; rw [hW3] at HG qa2 ra2; have RA := Lib.hid ra2; have u0 := qa2.c0; have u1 := qa2.c1; have u2 := qa2.c2; have u3 := qa2.c3; have y0 := ra2.c0; have y1 := ra2.c1; have y2 := ra2.c2; have y3 := ra2.c3; have f0 := ra2.fr 0; have f1 := ra2.fr 1; have f2 := ra2.fr 2; have f3 := ra2.fr 3; clear hp qa ra qa2 ra2; refine Hid.out ?_))
  refine Lib.hid ?_
  go_wp2_with fail
  refine ret_res rfl rfl rfl (RA.out.set4 (.int .i64 er) (.int .i64 0) (.string ⟨#[]⟩) (.slice none 0 0)) ⟨none, 0, 0, rfl, Sl_nil _, ?_⟩
  exact (FsP.after HBW.out H.out HP.out (M := fun x => x = w1.heap.size ∨ x = w.heap.size + 2) (fun x e => by have := HSZ.out; rcases e with e | e <;> omega) ((HG.out.mono (fun x _ e => .inl e)).trans (ch_set4 (M := fun x => x = w.heap.size + 2) W3 (w.heap.size + 2) _ _ _ _ rfl) (fun x _ e => .inr e))).up (by omega)
set_option maxHeartbeats 2000000 in
theorem do_12 {o : Int} (ho : InI o) (op : OpT) (ok : OpOk op) (hm : mayB op = true) (hk : op.kind = 12) :
    Calls Tryz.prog 9 #[.pointer (some ⟨fb, 0, none⟩), .int .i64 o, opV op] w (DoR w fb t hb S (N + 3) ⟨(F.T.renP op.path op.dst).1, F.H⟩ (errR (F.T.renP op.path op.dst).2)) := by
  obtain ⟨W0, hW0⟩ : ∃ W0, ((w.alloc (.cells #[.pointer (some ⟨fb, 0, none⟩)] 23)).alloc (.cells #[.int .i64 op.kind, .string (bs op.path), .string (bs op.dst), .int .i64 op.h, .int .i64 op.at_, .int .i64 op.n, .string (bs op.data), .int .i64 op.pid, .int .i64 op.birth] 34)).alloc (.cells #[.int .i64 0, .int .i64 0, .string ⟨#[]⟩, .slice none 0 0] 31) = W0 := ⟨_, rfl⟩
  have hb0 : Below w.heap.size w W0 := by rw [← hW0]; exact (((Below.refl _ w).alloc (Nat.le_refl _) _).alloc (by simp) _).alloc (by simp; omega) _
  have hs0 : W0.heap.size = w.heap.size + 3 := by rw [← hW0]; simp
  have k3 : W0.cell? ⟨w.heap.size, 0, none⟩ = some (.pointer (some ⟨fb, 0, none⟩)) := by
    rw [← hW0, World.cell?_alloc_lt _ _ _ (by simp; omega), World.cell?_alloc_lt _ _ _ (by simp)]; exact World.cell?_alloc_new w _ _ _
  have bx : OB W0 (w.heap.size + 1) op := by
    have := (MapKept.heap_alloc (w.alloc (.cells #[.pointer (some ⟨fb, 0, none⟩)] 23)) (.cells #[.int .i64 op.kind, .string (bs op.path), .string (bs op.dst), .int .i64 op.h, .int .i64 op.at_, .int .i64 op.n, .string (bs op.data), .int .i64 op.pid, .int .i64 op.birth] 34)).1
    rw [show (w.alloc (.cells #[.pointer (some ⟨fb, 0, none⟩)] 23)).heap.size = w.heap.size + 1 by simp] at this
    rw [← hW0]
    exact (Below.heap_alloc _ _ _ (by simp)).trans this
  have r0 : RS W0 (w.heap.size + 2) (.int .i64 0) (.int .i64 0) (.string ⟨#[]⟩) (.slice none 0 0) := by
    have := (MapKept.heap_alloc ((w.alloc (.cells #[.pointer (some ⟨fb, 0, none⟩)] 23)).alloc (.cells #[.int .i64 op.kind, .string (bs op.path), .string (bs op.dst), .int .i64 op.h, .int .i64 op.at_, .int .i64 op.n, .string (bs op.data), .int .i64 op.pid, .int .i64 op.birth] 34)) (.cells #[.int .i64 0, .int .i64 0, .string ⟨#[]⟩, .slice none 0 0] 31)).1
    rw [hW0, show ((w.alloc (.cells #[.pointer (some ⟨fb, 0, none⟩)] 23)).alloc (.cells #[.int .i64 op.kind, .string (bs op.path), .string (bs op.dst), .int .i64 op.h, .int .i64 op.at_, .int .i64 op.n, .string (bs op.data), .int .i64 op.pid, .int .i64 op.birth] 34)).heap.size = w.heap.size + 2 by simp] at this
    exact this
  have CM := Lib.hid (made_any (h.below hb0).fs)
  have CY := Lib.hid (may_any op ok W0)
  have H := Lib.hid h
  have HB0 := Lib.hid hb0
  have HS0 := Lib.hid hs0
  have R0 := Lib.hid r0
  have BX := Lib.hid bx
  have K3 := Lib.hid k3
  have x0 := bx.c0; have x1 := bx.c1; have x2 := bx.c2; have x3 := bx.c3; have x4 := bx.c4; have x5 := bx.c5; have x6 := bx.c6; have x7 := bx.c7; have x8 := bx.c8
  have AFTER : Hid (∀ w1, Below W0.heap.size W0 w1 → ∃ W2, w1.alloc (.cells #[.int .i64 0, .int .i64 0, .string ⟨#[]⟩, .slice none 0 0] 31) = W2 ∧ Below w.heap.size w W2 ∧ W2.heap.size = w1.heap.size + 1 ∧ w.heap.size + 3 ≤ w1.heap.size ∧ FsAt W2 fb t hb F S N ∧ W2.cell? ⟨w.heap.size, 0, none⟩ = some (.pointer (some ⟨fb, 0, none⟩)) ∧ OB W2 (w.heap.size + 1) op ∧ RS W2 (w.heap.size + 2) (.int .i64 0) (.int .i64 0) (.string ⟨#[]⟩) (.slice none 0 0) ∧ RS W2 w1.heap.size (.int .i64 0) (.int .i64 0) (.string ⟨#[]⟩) (.slice none 0 0)) := by
    refine Lib.hid fun w1 hb1 => ?_
    have hb2 : Below W0.heap.size W0 (w1.alloc (.cells #[.int .i64 0, .int .i64 0, .string ⟨#[]⟩, .slice none 0 0] 31)) := hb1.alloc hb1.size _
    have hbw : Below w.heap.size w (w1.alloc (.cells #[.int .i64 0, .int .i64 0, .string ⟨#[]⟩, .slice none 0 0] 31)) := hb0.trans (hb2.mono hb0.size)
    exact ⟨_, rfl, hbw, by simp, by have := hb1.size; omega, h.below hbw, (hb2.cell (p := ⟨w.heap.size, 0, none⟩) (by show w.heap.size < _; omega)).trans k3, bx.below hb2, r0.below hb2, (MapKept.heap_alloc w1 _).1⟩
  rw [hm] at CY
  have NS : Hid (∀ b, w.heap.size ≤ b → ¬ S b) := Lib.hid fun b hb e => by have := h.lt _ e; omega
  have CC : Hid (∀ w2, FsAt w2 fb t hb F S N → Calls Tryz.prog 28 #[.pointer (some ⟨fb, 0, none⟩), .string (bs op.path), .string (bs op.dst)] w2 fun e w' => e = .returned (.int .i64 (F.T.renP op.path op.dst).2) ∧ FsP w2 fb t hb ⟨(F.T.renP op.path op.dst).1, F.H⟩ S (N + 1) w') := Lib.hid fun w2 h2 => fs_rename h2 (by omega) op.path op.dst ok.path ok.dst
  generalize (F.T.renP op.path op.dst).2 = er at *
  generalize (F.T.renP op.path op.dst).1 = T1 at *
  have HK := Lib.hid hk
  clear hm hk ok
  unfold opV at CY ⊢
  clear bx hb0 r0 hs0 h
  go_enter Tryz.func9, Tryz.ntmps9
  go_wp2_with (first
    | (go_at_call 17; (with_reducible refine CM.out.mono ?_); rintro e w9 ⟨rfl, hw⟩; obtain rfl : W0 = w9 := hw.symm; clear hw)
    | (go_at_call 18; (with_reducible refine CY.out.mono ?_); rintro e w1 ⟨rfl, hb⟩; obtain ⟨W2, hW2, h1, h2, h3, h4, h5, h6, h7, h8⟩ := AFTER.out _ hb; have HBW := Lib.hid h1; have HSZ := Lib.hid (And.intro h2 h3); have HF := Lib.hid h4; have j3 := h5; have J3 := Lib.hid h5; have BX2 := Lib.hid h6; have R2 := Lib.hid h7; have Q2 := Lib.hid h8; have z0 := h6.c0; have z1 := h6.c1; have z2 := h6.c2; clear x0 x1 x2 x3 x4 x5 x6 x7 x8 h1 h2 h3 h4 h5 h6 h7 h8 hb k3; refine Hid.out ?_))
  refine Lib.hid ?_
  rw [HK.out] at z0
  go_wp2_with (first
    | (go_at_call 28; (with_reducible refine (CC.out _ HF.out).mono ?_); rintro e w3 ⟨rfl, hp⟩; have HP := Lib.hid hp; have qa := Q2.out.ch hp.ch (NS.out _ (by have := HSZ.out; omega)); have ra := R2.out.ch hp.ch (NS.out _ (by omega)); have v0 := qa.c0; have g0 := qa.fr 0; have HG : Hid (Ch (fun b => b = w1.heap.size) w3 (w3.setCell ⟨w1.heap.size, 0, none⟩ (.int .i64 er))) := Lib.hid (Ch.set _ ⟨w1.heap.size, 0, none⟩ _ rfl); have qa2 := qa.s0 (y := .int .i64 er); have ra2 := ra.ch HG.out (by have := HSZ.out; omega); obtain ⟨W3, hW3⟩ : ∃ W3, w3.setCell ⟨w1.heap.size, 0, none⟩ (.int .i64 er) = W3 := ⟨_, rfl⟩; rw [hW3] at HG qa2 ra2; have RA := Lib.hid ra2; have u0 := qa2.c0; have u1 := qa2.c1; have u2 := qa2.c2; have u3 := qa2.c3; have y0 := ra2.c0; have y1 := ra2.c1; have y2 := ra2.c2; have y3 := ra2.c3; have f0 := ra2.fr 0; have f1 := ra2.fr 1; have f2 := ra2.fr 2; have f3 := ra2.fr 3; clear hp qa ra qa2 ra2; refine Hid.out ?_))
  refine Lib.hid ?_
  go_wp2_with fail
  refine ret_res rfl rfl rfl (RA.out.set4 (.int .i64 er) (.int .i64 0) (.string ⟨#[]⟩) (.slice none 0 0)) ⟨none, 0, 0, rfl, Sl_nil _, ?_⟩
  exact (FsP.after HBW.out H.out HP.out (M := fun x => x = w1.heap.size ∨ x = w.heap.size + 2) (fun x e => by have := HSZ.out; rcases e with e | e <;> omega) ((HG.out.mono (fun x _ e => .inl e)).trans (ch_set4 (M := fun x => x = w.heap.size + 2) W3 (w.heap.size + 2) _ _ _ _ rfl) (fun x _ e => .inr e))).up (by omega)
end
end Go.Proofs.YtagdhghjcibfbaaGreatDoor

namespace Go.Proofs.YtagdhghjcibfbaaGreatDoor
open Go.RowKit
set_option linter.unusedVariables false
set_option linter.unusedSectionVars false
set_option maxRecDepth 100000

section
variable {w : World} {fb t hb : Nat} {F : Fs} {S : Nat → Prop} {N : Nat} (h : FsAt w fb t hb F S N) (hN : N < 999999000)
include h hN
omit h hN in
theorem cell_ch {w w' : World} {b i : Nat} {v : Value} {M : Nat → Prop} (h : w.cell? ⟨b, i, none⟩ = some v) (g : Ch M w w') (hn : ¬ M b) : w'.cell? ⟨b, i, none⟩ = some v :=
  (World.cell?_of_block (w := w) (g.block b (World.block_lt_of_cell? w _ h) hn)).trans h
omit h hN in
/-- A slice of strings lies in no result's block. -/
theorem sl_res {w w' : World} {v : Value} {ls : List (List UInt8)} {b c : Nat} (h : Sl w v ls) (g : Ch (fun x => x = b ∨ x = c) w w') (hk : ∀ k, v.ownBlock = some k → k ≠ b ∧ k ≠ c) : Sl w' v ls := by
  obtain ⟨a, cp, rfl, h1, h2, h3⟩ := h
  refine ⟨a, cp, rfl, h1, h2, ?_⟩
  rcases h3 with h3 | ⟨d, o, rfl, hlt, hc⟩
  · exact .inl h3
  · have hd := hk d rfl
    exact .inr ⟨d, o, rfl, Nat.lt_of_lt_of_le hlt g.size, fun j hj => cell_ch (hc j hj) g (fun e => by rcases e with e | e; exact hd.1 e; exact hd.2 e)⟩
omit h hN in
theorem create_in {T : Tb} {N : Nat} (wf : Wf T) (bd : Bd T N) (hN : N < 999999000) (p : List UInt8) (flag : Bool) (hz : (T.create p flag).2.2 = 0) : InI (T.create p flag).2.1 := by
  unfold Tb.create at *
  split at hz
  · next hE =>
    rw [if_pos hE]
    show InI (if T.mkE (T.find (dirL p)).1 (nameL p) = 0 then T.last + 1 else 0)
    have := bd.last
    split <;> (unfold InI; omega)
  · next hE => exact absurd hz hE
set_option maxHeartbeats 2000000 in
theorem do_3 {o : Int} (ho : InI o) (op : OpT) (ok : OpOk op) (hm : mayB op = true) (hk : op.kind = 3) :
    Calls Tryz.prog 9 #[.pointer (some ⟨fb, 0, none⟩), .int .i64 o, opV op] w (DoR w fb t hb S (N + 3) (F.open_ o (F.T.create op.path false)).1 ⟨(F.open_ o (F.T.create op.path false)).2.2, (F.open_ o (F.T.create op.path false)).2.1, [], []⟩) := by
  obtain ⟨W0, hW0⟩ : ∃ W0, ((w.alloc (.cells #[.pointer (some ⟨fb, 0, none⟩)] 23)).alloc (.cells #[.int .i64 op.kind, .string (bs op.path), .string (bs op.dst), .int .i64 op.h, .int .i64 op.at_, .int .i64 op.n, .string (bs op.data), .int .i64 op.pid, .int .i64 op.birth] 34)).alloc (.cells #[.int .i64 0, .int .i64 0, .string ⟨#[]⟩, .slice none 0 0] 31) = W0 := ⟨_, rfl⟩
  have hb0 : Below w.heap.size w W0 := by rw [← hW0]; exact (((Below.refl _ w).alloc (Nat.le_refl _) _).alloc (by simp) _).alloc (by simp; omega) _
  have hs0 : W0.heap.size = w.heap.size + 3 := by rw [← hW0]; simp
  have k3 : W0.cell? ⟨w.heap.size, 0, none⟩ = some (.pointer (some ⟨fb, 0, none⟩)) := by
    rw [← hW0, World.cell?_alloc_lt _ _ _ (by simp; omega), World.cell?_alloc_lt _ _ _ (by simp)]; exact World.cell?_alloc_new w _ _ _
  have bx : OB W0 (w.heap.size + 1) op := by
    have := (MapKept.heap_alloc (w.alloc (.cells #[.pointer (some ⟨fb, 0, none⟩)] 23)) (.cells #[.int .i64 op.kind, .string (bs op.path), .string (bs op.dst), .int .i64 op.h, .int .i64 op.at_, .int .i64 op.n, .string (bs op.data), .int .i64 op.pid, .int .i64 op.birth] 34)).1
    rw [show (w.alloc (.cells #[.pointer (some ⟨fb, 0, none⟩)] 23)).heap.size = w.heap.size + 1 by simp] at this
    rw [← hW0]
    exact (Below.heap_alloc _ _ _ (by simp)).trans this
  have r0 : RS W0 (w.heap.size + 2) (.int .i64 0) (.int .i64 0) (.string ⟨#[]⟩) (.slice none 0 0) := by
    have := (MapKept.heap_alloc ((w.alloc (.cells #[.pointer (some ⟨fb, 0, none⟩)] 23)).alloc (.cells #[.int .i64 op.kind, .string (bs op.path), .string (bs op.dst), .int .i64 op.h, .int .i64 op.at_, .int .i64 op.n, .string (bs op.data), .int .i64 op.pid, .int .i64 op.birth] 34)) (.cells #[.int .i64 0, .int .i64 0, .string ⟨#[]⟩, .slice none 0 0] 31)).1
    rw [hW0, show ((w.alloc (.cells #[.pointer (some ⟨fb, 0, none⟩)] 23)).alloc (.cells #[.int .i64 op.kind, .string (bs op.path), .string (bs op.dst), .int .i64 op.h, .int .i64 op.at_, .int .i64 op.n, .string (bs op.data), .int .i64 op.pid, .int .i64 op.birth] 34)).heap.size = w.heap.size + 2 by simp] at this
    exact this
  have CM := Lib.hid (made_any (h.below hb0).fs)
  have CY := Lib.hid (may_any op ok W0)
  have H := Lib.hid h
  have HB0 := Lib.hid hb0
  have HS0 := Lib.hid hs0
  have R0 := Lib.hid r0
  have BX := Lib.hid bx
  have K3 := Lib.hid k3
  have x0 := bx.c0; have x1 := bx.c1; have x2 := bx.c2; have x3 := bx.c3; have x4 := bx.c4; have x5 := bx.c5; have x6 := bx.c6; have x7 := bx.c7; have x8 := bx.c8
  have AFTER : Hid (∀ w1, Below W0.heap.size W0 w1 → ∃ W2, w1.alloc (.cells #[.int .i64 0, .int .i64 0, .string ⟨#[]⟩, .slice none 0 0] 31) = W2 ∧ Below w.heap.size w W2 ∧ W2.heap.size = w1.heap.size + 1 ∧ w.heap.size + 3 ≤ w1.heap.size ∧ FsAt W2 fb t hb F S N ∧ W2.cell? ⟨w.heap.size, 0, none⟩ = some (.pointer (some ⟨fb, 0, none⟩)) ∧ OB W2 (w.heap.size + 1) op ∧ RS W2 (w.heap.size + 2) (.int .i64 0) (.int .i64 0) (.string ⟨#[]⟩) (.slice none 0 0) ∧ RS W2 w1.heap.size (.int .i64 0) (.int .i64 0) (.string ⟨#[]⟩) (.slice none 0 0)) := by
    refine Lib.hid fun w1 hb1 => ?_
    have hb2 : Below W0.heap.size W0 (w1.alloc (.cells #[.int .i64 0, .int .i64 0, .string ⟨#[]⟩, .slice none 0 0] 31)) := hb1.alloc hb1.size _
    have hbw : Below w.heap.size w (w1.alloc (.cells #[.int .i64 0, .int .i64 0, .string ⟨#[]⟩, .slice none 0 0] 31)) := hb0.trans (hb2.mono hb0.size)
    exact ⟨_, rfl, hbw, by simp, by have := hb1.size; omega, h.below hbw, (hb2.cell (p := ⟨w.heap.size, 0, none⟩) (by show w.heap.size < _; omega)).trans k3, bx.below hb2, r0.below hb2, (MapKept.heap_alloc w1 _).1⟩
  rw [hm] at CY
  have NS : Hid (∀ b, w.heap.size ≤ b → ¬ S b) := Lib.hid fun b hb e => by have := h.lt _ e; omega
  have CC : Hid (∀ w2, Below w.heap.size w w2 → FsAt w2 fb t hb F S N → w2.cell? ⟨w.heap.size, 0, none⟩ = some (.pointer (some ⟨fb, 0, none⟩)) → OB w2 (w.heap.size + 1) op → Calls Tryz.prog 22 #[.pointer (some ⟨fb, 0, none⟩), .int .i64 o, .func (.func 23) #[] #[.pointer (some ⟨w.heap.size, 0, none⟩), .pointer (some ⟨w.heap.size + 1, 0, none⟩)]] w2 fun e w' => e = .returned (.tuple #[.int .i64 (F.open_ o (F.T.create op.path false)).2.1, .int .i64 (F.open_ o (F.T.create op.path false)).2.2]) ∧ FsP w2 fb t hb (F.open_ o (F.T.create op.path false)).1 S (N + 3) w') :=
    Lib.hid fun w2 hb2 h2 k3 bx => fs_open h2 hN 23 #[] #[.pointer (some ⟨w.heap.size, 0, none⟩), .pointer (some ⟨w.heap.size + 1, 0, none⟩)] (enters_of Tryz.func23 (by kernel_rfl) rfl) ho (F.T.create op.path false) (fun hz => create_in h2.wf h2.bd hN op.path false hz) (fun w3 hb3 => clo1_any h2 hN hb3 ok ((hb3.cell (p := ⟨w.heap.size, 0, none⟩) (World.block_lt_of_cell? w2 _ k3)).trans k3) (bx.below hb3))
  generalize (F.open_ o (F.T.create op.path false)).2.2 = er at *
  generalize (F.open_ o (F.T.create op.path false)).2.1 = n at *
  generalize (F.open_ o (F.T.create op.path false)).1 = F2 at *
  have HK := Lib.hid hk
  clear hm hk ok
  unfold opV at CY ⊢
  clear bx hb0 r0 hs0 h
  go_enter Tryz.func9, Tryz.ntmps9
  go_wp2_with (first
    | (go_at_call 17; (with_reducible refine CM.out.mono ?_); rintro e w9 ⟨rfl, hw⟩; obtain rfl : W0 = w9 := hw.symm; clear hw)
    | (go_at_call 18; (with_reducible refine CY.out.mono ?_); rintro e w1 ⟨rfl, hb⟩; obtain ⟨W2, hW2, h1, h2, h3, h4, h5, h6, h7, h8⟩ := AFTER.out _ hb; have HBW := Lib.hid h1; have HSZ := Lib.hid (And.intro h2 h3); have HF := Lib.hid h4; have j3 := h5; have J3 := Lib.hid h5; have BX2 := Lib.hid h6; have R2 := Lib.hid h7; have Q2 := Lib.hid h8; have z0 := h6.c0; have z1 := h6.c1; have z2 := h6.c2; clear x0 x1 x2 x3 x4 x5 x6 x7 x8 h1 h2 h3 h4 h5 h6 h7 h8 hb k3; refine Hid.out ?_))
  refine Lib.hid ?_
  rw [HK.out] at z0
  go_wp2_with (first
    | (go_at_call 22; (with_reducible refine (CC.out _ HBW.out HF.out J3.out BX2.out).mono ?_); rintro e w3 ⟨rfl, hp⟩; have HP := Lib.hid hp; have qa := Q2.out.ch hp.ch (NS.out _ (by have := HSZ.out; omega)); have ra := R2.out.ch hp.ch (NS.out _ (by omega)); have v1 := qa.c1; have g1 := qa.fr 1; have qb := qa.s1 (y := .int .i64 n); have v0 := qb.c0; have g0 := qb.fr 0; have HG : Hid (Ch (fun b => b = w1.heap.size) w3 ((w3.setCell ⟨w1.heap.size, 1, none⟩ (.int .i64 n)).setCell ⟨w1.heap.size, 0, none⟩ (.int .i64 er))) := Lib.hid (Ch.trans (M := fun b => b = w1.heap.size) (M' := fun b => b = w1.heap.size) (Ch.set _ ⟨w1.heap.size, 1, none⟩ _ rfl) (Ch.set _ ⟨w1.heap.size, 0, none⟩ _ rfl) (fun _ _ e => e)); have qa2 := qb.s0 (y := .int .i64 er); have ra2 := ra.ch HG.out (by have := HSZ.out; omega); obtain ⟨W3, hW3⟩ : ∃ W3, (w3.setCell ⟨w1.heap.size, 1, none⟩ (.int .i64 n)).setCell ⟨w1.heap.size, 0, none⟩ (.int .i64 er) = W3 := ⟨_, rfl⟩; rw [hW3] at HG qa2 ra2; have RA := Lib.hid ra2; have u0 := qa2.c0; have u1 := qa2.c1; have u2 := qa2.c2; have u3 := qa2.c3; have y0 := ra2.c0; have y1 := ra2.c1; have y2 := ra2.c2; have y3 := ra2.c3; have f0 := ra2.fr 0; have f1 := ra2.fr 1; have f2 := ra2.fr 2; have f3 := ra2.fr 3; clear hp qa ra qa2 ra2 qb; refine Hid.out ?_))
  refine Lib.hid ?_
  go_wp2_with fail
  refine ret_res rfl rfl rfl (RA.out.set4 (.int .i64 er) (.int .i64 n) (.string ⟨#[]⟩) (.slice none 0 0)) ⟨none, 0, 0, rfl, Sl_nil _, ?_⟩
  exact FsP.after HBW.out H.out HP.out (M := fun x => x = w1.heap.size ∨ x = w.heap.size + 2) (fun x e => by have := HSZ.out; rcases e with e | e <;> omega) ((HG.out.mono (fun x _ e => .inl e)).trans (ch_set4 (M := fun x => x = w.heap.size + 2) W3 (w.heap.size + 2) _ _ _ _ rfl) (fun x _ e => .inr e))
set_option maxHeartbeats 2000000 in
theorem do_4 {o : Int} (ho : InI o) (op : OpT) (ok : OpOk op) (hm : mayB op = true) (hk : op.kind = 4) :
    Calls Tryz.prog 9 #[.pointer (some ⟨fb, 0, none⟩), .int .i64 o, opV op] w (DoR w fb t hb S (N + 3) (F.open_ o (F.T, F.T.find op.path)).1 ⟨(F.open_ o (F.T, F.T.find op.path)).2.2, (F.open_ o (F.T, F.T.find op.path)).2.1, [], []⟩) := by
  obtain ⟨W0, hW0⟩ : ∃ W0, ((w.alloc (.cells #[.pointer (some ⟨fb, 0, none⟩)] 23)).alloc (.cells #[.int .i64 op.kind, .string (bs op.path), .string (bs op.dst), .int .i64 op.h, .int .i64 op.at_, .int .i64 op.n, .string (bs op.data), .int .i64 op.pid, .int .i64 op.birth] 34)).alloc (.cells #[.int .i64 0, .int .i64 0, .string ⟨#[]⟩, .slice none 0 0] 31) = W0 := ⟨_, rfl⟩
  have hb0 : Below w.heap.size w W0 := by rw [← hW0]; exact (((Below.refl _ w).alloc (Nat.le_refl _) _).alloc (by simp) _).alloc (by simp; omega) _
  have hs0 : W0.heap.size = w.heap.size + 3 := by rw [← hW0]; simp
  have k3 : W0.cell? ⟨w.heap.size, 0, none⟩ = some (.pointer (some ⟨fb, 0, none⟩)) := by
    rw [← hW0, World.cell?_alloc_lt _ _ _ (by simp; omega), World.cell?_alloc_lt _ _ _ (by simp)]; exact World.cell?_alloc_new w _ _ _
  have bx : OB W0 (w.heap.size + 1) op := by
    have := (MapKept.heap_alloc (w.alloc (.cells #[.pointer (some ⟨fb, 0, none⟩)] 23)) (.cells #[.int .i64 op.kind, .string (bs op.path), .string (bs op.dst), .int .i64 op.h, .int .i64 op.at_, .int .i64 op.n, .string (bs op.data), .int .i64 op.pid, .int .i64 op.birth] 34)).1
    rw [show (w.alloc (.cells #[.pointer (some ⟨fb, 0, none⟩)] 23)).heap.size = w.heap.size + 1 by simp] at this
    rw [← hW0]
    exact (Below.heap_alloc _ _ _ (by simp)).trans this
  have r0 : RS W0 (w.heap.size + 2) (.int .i64 0) (.int .i64 0) (.string ⟨#[]⟩) (.slice none 0 0) := by
    have := (MapKept.heap_alloc ((w.alloc (.cells #[.pointer (some ⟨fb, 0, none⟩)] 23)).alloc (.cells #[.int .i64 op.kind, .string (bs op.path), .string (bs op.dst), .int .i64 op.h, .int .i64 op.at_, .int .i64 op.n, .string (bs op.data), .int .i64 op.pid, .int .i64 op.birth] 34)) (.cells #[.int .i64 0, .int .i64 0, .string ⟨#[]⟩, .slice none 0 0] 31)).1
    rw [hW0, show ((w.alloc (.cells #[.pointer (some ⟨fb, 0, none⟩)] 23)).alloc (.cells #[.int .i64 op.kind, .string (bs op.path), .string (bs op.dst), .int .i64 op.h, .int .i64 op.at_, .int .i64 op.n, .string (bs op.data), .int .i64 op.pid, .int .i64 op.birth] 34)).heap.size = w.heap.size + 2 by simp] at this
    exact this
  have CM := Lib.hid (made_any (h.below hb0).fs)
  have CY := Lib.hid (may_any op ok W0)
  have H := Lib.hid h
  have HB0 := Lib.hid hb0
  have HS0 := Lib.hid hs0
  have R0 := Lib.hid r0
  have BX := Lib.hid bx
  have K3 := Lib.hid k3
  have x0 := bx.c0; have x1 := bx.c1; have x2 := bx.c2; have x3 := bx.c3; have x4 := bx.c4; have x5 := bx.c5; have x6 := bx.c6; have x7 := bx.c7; have x8 := bx.c8
  have AFTER : Hid (∀ w1, Below W0.heap.size W0 w1 → ∃ W2, w1.alloc (.cells #[.int .i64 0, .int .i64 0, .string ⟨#[]⟩, .slice none 0 0] 31) = W2 ∧ Below w.heap.size w W2 ∧ W2.heap.size = w1.heap.size + 1 ∧ w.heap.size + 3 ≤ w1.heap.size ∧ FsAt W2 fb t hb F S N ∧ W2.cell? ⟨w.heap.size, 0, none⟩ = some (.pointer (some ⟨fb, 0, none⟩)) ∧ OB W2 (w.heap.size + 1) op ∧ RS W2 (w.heap.size + 2) (.int .i64 0) (.int .i64 0) (.string ⟨#[]⟩) (.slice none 0 0) ∧ RS W2 w1.heap.size (.int .i64 0) (.int .i64 0) (.string ⟨#[]⟩) (.slice none 0 0)) := by
    refine Lib.hid fun w1 hb1 => ?_
    have hb2 : Below W0.heap.size W0 (w1.alloc (.cells #[.int .i64 0, .int .i64 0, .string ⟨#[]⟩, .slice none 0 0] 31)) := hb1.alloc hb1.size _
    have hbw : Below w.heap.size w (w1.alloc (.cells #[.int .i64 0, .int .i64 0, .string ⟨#[]⟩, .slice none 0 0] 31)) := hb0.trans (hb2.mono hb0.size)
    exact ⟨_, rfl, hbw, by simp, by have := hb1.size; omega, h.below hbw, (hb2.cell (p := ⟨w.heap.size, 0, none⟩) (by show w.heap.size < _; omega)).trans k3, bx.below hb2, r0.below hb2, (MapKept.heap_alloc w1 _).1⟩
  rw [hm] at CY
  have NS : Hid (∀ b, w.heap.size ≤ b → ¬ S b) := Lib.hid fun b hb e => by have := h.lt _ e; omega
  have CC : Hid (∀ w2, Below w.heap.size w w2 → FsAt w2 fb t hb F S N → w2.cell? ⟨w.heap.size, 0, none⟩ = some (.pointer (some ⟨fb, 0, none⟩)) → OB w2 (w.heap.size + 1) op → Calls Tryz.prog 22 #[.pointer (some ⟨fb, 0, none⟩), .int .i64 o, .func (.func 24) #[] #[.pointer (some ⟨w.heap.size, 0, none⟩), .pointer (some ⟨w.heap.size + 1, 0, none⟩)]] w2 fun e w' => e = .returned (.tuple #[.int .i64 (F.open_ o (F.T, F.T.find op.path)).2.1, .int .i64 (F.open_ o (F.T, F.T.find op.path)).2.2]) ∧ FsP w2 fb t hb (F.open_ o (F.T, F.T.find op.path)).1 S (N + 3) w') :=
    Lib.hid fun w2 hb2 h2 k3 bx => fs_open h2 hN 24 #[] #[.pointer (some ⟨w.heap.size, 0, none⟩), .pointer (some ⟨w.heap.size + 1, 0, none⟩)] (enters_of Tryz.func24 (by kernel_rfl) rfl) ho (F.T, F.T.find op.path) (fun hz => h2.find_in (by omega) hz) (fun w3 hb3 => clo2_any h2 hN hb3 ok ((hb3.cell (p := ⟨w.heap.size, 0, none⟩) (World.block_lt_of_cell? w2 _ k3)).trans k3) (bx.below hb3))
  generalize (F.open_ o (F.T, F.T.find op.path)).2.2 = er at *
  generalize (F.open_ o (F.T, F.T.find op.path)).2.1 = n at *
  generalize (F.open_ o (F.T, F.T.find op.path)).1 = F2 at *
  have HK := Lib.hid hk
  clear hm hk ok
  unfold opV at CY ⊢
  clear bx hb0 r0 hs0 h
  go_enter Tryz.func9, Tryz.ntmps9
  go_wp2_with (first
    | (go_at_call 17; (with_reducible refine CM.out.mono ?_); rintro e w9 ⟨rfl, hw⟩; obtain rfl : W0 = w9 := hw.symm; clear hw)
    | (go_at_call 18; (with_reducible refine CY.out.mono ?_); rintro e w1 ⟨rfl, hb⟩; obtain ⟨W2, hW2, h1, h2, h3, h4, h5, h6, h7, h8⟩ := AFTER.out _ hb; have HBW := Lib.hid h1; have HSZ := Lib.hid (And.intro h2 h3); have HF := Lib.hid h4; have j3 := h5; have J3 := Lib.hid h5; have BX2 := Lib.hid h6; have R2 := Lib.hid h7; have Q2 := Lib.hid h8; have z0 := h6.c0; have z1 := h6.c1; have z2 := h6.c2; clear x0 x1 x2 x3 x4 x5 x6 x7 x8 h1 h2 h3 h4 h5 h6 h7 h8 hb k3; refine Hid.out ?_))
  refine Lib.hid ?_
  rw [HK.out] at z0
  go_wp2_with (first
    | (go_at_call 22; (with_reducible refine (CC.out _ HBW.out HF.out J3.out BX2.out).mono ?_); rintro e w3 ⟨rfl, hp⟩; have HP := Lib.hid hp; have qa := Q2.out.ch hp.ch (NS.out _ (by have := HSZ.out; omega)); have ra := R2.out.ch hp.ch (NS.out _ (by omega)); have v1 := qa.c1; have g1 := qa.fr 1; have qb := qa.s1 (y := .int .i64 n); have v0 := qb.c0; have g0 := qb.fr 0; have HG : Hid (Ch (fun b => b = w1.heap.size) w3 ((w3.setCell ⟨w1.heap.size, 1, none⟩ (.int .i64 n)).setCell ⟨w1.heap.size, 0, none⟩ (.int .i64 er))) := Lib.hid (Ch.trans (M := fun b => b = w1.heap.size) (M' := fun b => b = w1.heap.size) (Ch.set _ ⟨w1.heap.size, 1, none⟩ _ rfl) (Ch.set _ ⟨w1.heap.size, 0, none⟩ _ rfl) (fun _ _ e => e)); have qa2 := qb.s0 (y := .int .i64 er); have ra2 := ra.ch HG.out (by have := HSZ.out; omega); obtain ⟨W3, hW3⟩ : ∃ W3, (w3.setCell ⟨w1.heap.size, 1, none⟩ (.int .i64 n)).setCell ⟨w1.heap.size, 0, none⟩ (.int .i64 er) = W3 := ⟨_, rfl⟩; rw [hW3] at HG qa2 ra2; have RA := Lib.hid ra2; have u0 := qa2.c0; have u1 := qa2.c1; have u2 := qa2.c2; have u3 := qa2.c3; have y0 := ra2.c0; have y1 := ra2.c1; have y2 := ra2.c2; have y3 := ra2.c3; have f0 := ra2.fr 0; have f1 := ra2.fr 1; have f2 := ra2.fr 2; have f3 := ra2.fr 3; clear hp qa ra qa2 ra2 qb; refine Hid.out ?_))
  refine Lib.hid ?_
  go_wp2_with fail
  refine ret_res rfl rfl rfl (RA.out.set4 (.int .i64 er) (.int .i64 n) (.string ⟨#[]⟩) (.slice none 0 0)) ⟨none, 0, 0, rfl, Sl_nil _, ?_⟩
  exact FsP.after HBW.out H.out HP.out (M := fun x => x = w1.heap.size ∨ x = w.heap.size + 2) (fun x e => by have := HSZ.out; rcases e with e | e <;> omega) ((HG.out.mono (fun x _ e => .inl e)).trans (ch_set4 (M := fun x => x = w.heap.size + 2) W3 (w.heap.size + 2) _ _ _ _ rfl) (fun x _ e => .inr e))
set_option maxHeartbeats 2000000 in
theorem do_13 {o : Int} (ho : InI o) (op : OpT) (ok : OpOk op) (hm : mayB op = true) (hk : op.kind = 13) :
    Calls Tryz.prog 9 #[.pointer (some ⟨fb, 0, none⟩), .int .i64 o, opV op] w (DoR w fb t hb S (N + 3) F ⟨(F.T.listP op.path).1, 0, [], (F.T.listP op.path).2⟩) := by
  obtain ⟨W0, hW0⟩ : ∃ W0, ((w.alloc (.cells #[.pointer (some ⟨fb, 0, none⟩)] 23)).alloc (.cells #[.int .i64 op.kind, .string (bs op.path), .string (bs op.dst), .int .i64 op.h, .int .i64 op.at_, .int .i64 op.n, .string (bs op.data), .int .i64 op.pid, .int .i64 op.birth] 34)).alloc (.cells #[.int .i64 0, .int .i64 0, .string ⟨#[]⟩, .slice none 0 0] 31) = W0 := ⟨_, rfl⟩
  have hb0 : Below w.heap.size w W0 := by rw [← hW0]; exact (((Below.refl _ w).alloc (Nat.le_refl _) _).alloc (by simp) _).alloc (by simp; omega) _
  have hs0 : W0.heap.size = w.heap.size + 3 := by rw [← hW0]; simp
  have k3 : W0.cell? ⟨w.heap.size, 0, none⟩ = some (.pointer (some ⟨fb, 0, none⟩)) := by
    rw [← hW0, World.cell?_alloc_lt _ _ _ (by simp; omega), World.cell?_alloc_lt _ _ _ (by simp)]; exact World.cell?_alloc_new w _ _ _
  have bx : OB W0 (w.heap.size + 1) op := by
    have := (MapKept.heap_alloc (w.alloc (.cells #[.pointer (some ⟨fb, 0, none⟩)] 23)) (.cells #[.int .i64 op.kind, .string (bs op.path), .string (bs op.dst), .int .i64 op.h, .int .i64 op.at_, .int .i64 op.n, .string (bs op.data), .int .i64 op.pid, .int .i64 op.birth] 34)).1
    rw [show (w.alloc (.cells #[.pointer (some ⟨fb, 0, none⟩)] 23)).heap.size = w.heap.size + 1 by simp] at this
    rw [← hW0]
    exact (Below.heap_alloc _ _ _ (by simp)).trans this
  have r0 : RS W0 (w.heap.size + 2) (.int .i64 0) (.int .i64 0) (.string ⟨#[]⟩) (.slice none 0 0) := by
    have := (MapKept.heap_alloc ((w.alloc (.cells #[.pointer (some ⟨fb, 0, none⟩)] 23)).alloc (.cells #[.int .i64 op.kind, .string (bs op.path), .string (bs op.dst), .int .i64 op.h, .int .i64 op.at_, .int .i64 op.n, .string (bs op.data), .int .i64 op.pid, .int .i64 op.birth] 34)) (.cells #[.int .i64 0, .int .i64 0, .string ⟨#[]⟩, .slice none 0 0] 31)).1
    rw [hW0, show ((w.alloc (.cells #[.pointer (some ⟨fb, 0, none⟩)] 23)).alloc (.cells #[.int .i64 op.kind, .string (bs op.path), .string (bs op.dst), .int .i64 op.h, .int .i64 op.at_, .int .i64 op.n, .string (bs op.data), .int .i64 op.pid, .int .i64 op.birth] 34)).heap.size = w.heap.size + 2 by simp] at this
    exact this
  have CM := Lib.hid (made_any (h.below hb0).fs)
  have CY := Lib.hid (may_any op ok W0)
  have H := Lib.hid h
  have HB0 := Lib.hid hb0
  have HS0 := Lib.hid hs0
  have R0 := Lib.hid r0
  have BX := Lib.hid bx
  have K3 := Lib.hid k3
  have x0 := bx.c0; have x1 := bx.c1; have x2 := bx.c2; have x3 := bx.c3; have x4 := bx.c4; have x5 := bx.c5; have x6 := bx.c6; have x7 := bx.c7; have x8 := bx.c8
  have AFTER : Hid (∀ w1, Below W0.heap.size W0 w1 → ∃ W2, w1.alloc (.cells #[.int .i64 0, .int .i64 0, .string ⟨#[]⟩, .slice none 0 0] 31) = W2 ∧ Below w.heap.size w W2 ∧ W2.heap.size = w1.heap.size + 1 ∧ w.heap.size + 3 ≤ w1.heap.size ∧ FsAt W2 fb t hb F S N ∧ W2.cell? ⟨w.heap.size, 0, none⟩ = some (.pointer (some ⟨fb, 0, none⟩)) ∧ OB W2 (w.heap.size + 1) op ∧ RS W2 (w.heap.size + 2) (.int .i64 0) (.int .i64 0) (.string ⟨#[]⟩) (.slice none 0 0) ∧ RS W2 w1.heap.size (.int .i64 0) (.int .i64 0) (.string ⟨#[]⟩) (.slice none 0 0)) := by
    refine Lib.hid fun w1 hb1 => ?_
    have hb2 : Below W0.heap.size W0 (w1.alloc (.cells #[.int .i64 0, .int .i64 0, .string ⟨#[]⟩, .slice none 0 0] 31)) := hb1.alloc hb1.size _
    have hbw : Below w.heap.size w (w1.alloc (.cells #[.int .i64 0, .int .i64 0, .string ⟨#[]⟩, .slice none 0 0] 31)) := hb0.trans (hb2.mono hb0.size)
    exact ⟨_, rfl, hbw, by simp, by have := hb1.size; omega, h.below hbw, (hb2.cell (p := ⟨w.heap.size, 0, none⟩) (by show w.heap.size < _; omega)).trans k3, bx.below hb2, r0.below hb2, (MapKept.heap_alloc w1 _).1⟩
  rw [hm] at CY
  have NS : Hid (∀ b, w.heap.size ≤ b → ¬ S b) := Lib.hid fun b hb e => by have := h.lt _ e; omega
  have CC : Hid (∀ w2, FsAt w2 fb t hb F S N → Calls Tryz.prog 29 #[.pointer (some ⟨fb, 0, none⟩), .string (bs op.path)] w2 fun e w' => ∃ a n c, e = .returned (.tuple #[.slice a n c, .int .i64 (F.T.listP op.path).1]) ∧ Sl w' (.slice a n c) (F.T.listP op.path).2 ∧ Below w2.heap.size w2 w' ∧ ∀ k, (Value.slice a n c).ownBlock = some k → w2.heap.size ≤ k) := Lib.hid fun w2 h2 => fs_list h2 (by omega) op.path ok.path
  generalize (F.T.listP op.path).1 = er at *
  generalize (F.T.listP op.path).2 = ls at *
  have HK := Lib.hid hk
  clear hm hk ok
  unfold opV at CY ⊢
  clear bx hb0 r0 hs0 h
  go_enter Tryz.func9, Tryz.ntmps9
  go_wp2_with (first
    | (go_at_call 17; (with_reducible refine CM.out.mono ?_); rintro e w9 ⟨rfl, hw⟩; obtain rfl : W0 = w9 := hw.symm; clear hw)
    | (go_at_call 18; (with_reducible refine CY.out.mono ?_); rintro e w1 ⟨rfl, hb⟩; obtain ⟨W2, hW2, h1, h2, h3, h4, h5, h6, h7, h8⟩ := AFTER.out _ hb; have HBW := Lib.hid h1; have HSZ := Lib.hid (And.intro h2 h3); have HF := Lib.hid h4; have j3 := h5; have J3 := Lib.hid h5; have BX2 := Lib.hid h6; have R2 := Lib.hid h7; have Q2 := Lib.hid h8; have z0 := h6.c0; have z1 := h6.c1; have z2 := h6.c2; clear x0 x1 x2 x3 x4 x5 x6 x7 x8 h1 h2 h3 h4 h5 h6 h7 h8 hb k3; refine Hid.out ?_))
  refine Lib.hid ?_
  rw [HK.out] at z0
  go_wp2_with (first
    | (go_at_call 29; (with_reducible refine (CC.out _ HF.out).mono ?_); rintro e w3 ⟨a, n, c, rfl, hs, hp, hn⟩; have HP := Lib.hid hp; have HN := Lib.hid hn; clear hn; have HS := Lib.hid hs; have qa := Q2.out.below hp; have ra := R2.out.below hp; have v3 := qa.c3; have g3 := qa.fr 3; have qb := qa.s3 (y := .slice a n c); have v0 := qb.c0; have g0 := qb.fr 0; have HG : Hid (Ch (fun b => b = w1.heap.size) w3 ((w3.setCell ⟨w1.heap.size, 3, none⟩ (.slice a n c)).setCell ⟨w1.heap.size, 0, none⟩ (.int .i64 er))) := Lib.hid (Ch.trans (M := fun b => b = w1.heap.size) (M' := fun b => b = w1.heap.size) (Ch.set _ ⟨w1.heap.size, 3, none⟩ _ rfl) (Ch.set _ ⟨w1.heap.size, 0, none⟩ _ rfl) (fun _ _ e => e)); have qa2 := qb.s0 (y := .int .i64 er); have ra2 := ra.ch HG.out (by have := HSZ.out; omega); obtain ⟨W3, hW3⟩ : ∃ W3, (w3.setCell ⟨w1.heap.size, 3, none⟩ (.slice a n c)).setCell ⟨w1.heap.size, 0, none⟩ (.int .i64 er) = W3 := ⟨_, rfl⟩; rw [hW3] at HG qa2 ra2; have RA := Lib.hid ra2; have QA := Lib.hid qa; have RA0 := Lib.hid ra; have u0 := qa2.c0; have u1 := qa2.c1; have u2 := qa2.c2; have u3 := qa2.c3; have y0 := ra2.c0; have y1 := ra2.c1; have y2 := ra2.c2; have y3 := ra2.c3; have f0 := ra2.fr 0; have f1 := ra2.fr 1; have f2 := ra2.fr 2; have f3 := ra2.fr 3; clear hp hs qa ra qa2 ra2 qb; refine Hid.out ?_))
  refine Lib.hid ?_
  go_wp2_with fail
  refine ret_res rfl rfl rfl (RA.out.set4 (.int .i64 er) (.int .i64 0) (.string ⟨#[]⟩) (.slice a n c)) ⟨a, n, c, rfl, ?_, ?_⟩
  · have g : Ch (fun x => x = w1.heap.size ∨ x = w.heap.size + 2) w3 (set4 W3 (w.heap.size + 2) (.int .i64 er) (.int .i64 0) (.string ⟨#[]⟩) (.slice a n c)) := (HG.out.mono (fun x _ e => .inl e)).trans (ch_set4 (M := fun x => x = w.heap.size + 2) W3 (w.heap.size + 2) _ _ _ _ rfl) (fun x _ e => .inr e)
    exact sl_res HS.out g (fun k hk => by have := HN.out k hk; have := HSZ.out; omega)
  · exact (FsP.after HBW.out H.out (FsP.of_below HF.out HP.out) (M := fun x => x = w1.heap.size ∨ x = w.heap.size + 2) (fun x e => by have := HSZ.out; rcases e with e | e <;> omega) ((HG.out.mono (fun x _ e => .inl e)).trans (ch_set4 (M := fun x => x = w.heap.size + 2) W3 (w.heap.size + 2) _ _ _ _ rfl) (fun x _ e => .inr e))).up (by omega)
set_option maxHeartbeats 2000000 in
theorem do_use {o : Int} (ho : InI o) (op : OpT) (ok : OpOk op) (hm : mayB op = true) (hk : op.kind = 5 ∨ op.kind = 6 ∨ op.kind = 7 ∨ op.kind = 8 ∨ op.kind = 9) :
    Calls Tryz.prog 9 #[.pointer (some ⟨fb, 0, none⟩), .int .i64 o, opV op] w (DoR w fb t hb S (N + 3) (F.use o op).1 (F.use o op).2) := by
  obtain ⟨W0, hW0⟩ : ∃ W0, ((w.alloc (.cells #[.pointer (some ⟨fb, 0, none⟩)] 23)).alloc (.cells #[.int .i64 op.kind, .string (bs op.path), .string (bs op.dst), .int .i64 op.h, .int .i64 op.at_, .int .i64 op.n, .string (bs op.data), .int .i64 op.pid, .int .i64 op.birth] 34)).alloc (.cells #[.int .i64 0, .int .i64 0, .string ⟨#[]⟩, .slice none 0 0] 31) = W0 := ⟨_, rfl⟩
  have hb0 : Below w.heap.size w W0 := by rw [← hW0]; exact (((Below.refl _ w).alloc (Nat.le_refl _) _).alloc (by simp) _).alloc (by simp; omega) _
  have hs0 : W0.heap.size = w.heap.size + 3 := by rw [← hW0]; simp
  have k3 : W0.cell? ⟨w.heap.size, 0, none⟩ = some (.pointer (some ⟨fb, 0, none⟩)) := by
    rw [← hW0, World.cell?_alloc_lt _ _ _ (by simp; omega), World.cell?_alloc_lt _ _ _ (by simp)]; exact World.cell?_alloc_new w _ _ _
  have bx : OB W0 (w.heap.size + 1) op := by
    have := (MapKept.heap_alloc (w.alloc (.cells #[.pointer (some ⟨fb, 0, none⟩)] 23)) (.cells #[.int .i64 op.kind, .string (bs op.path), .string (bs op.dst), .int .i64 op.h, .int .i64 op.at_, .int .i64 op.n, .string (bs op.data), .int .i64 op.pid, .int .i64 op.birth] 34)).1
    rw [show (w.alloc (.cells #[.pointer (some ⟨fb, 0, none⟩)] 23)).heap.size = w.heap.size + 1 by simp] at this
    rw [← hW0]
    exact (Below.heap_alloc _ _ _ (by simp)).trans this
  have r0 : RS W0 (w.heap.size + 2) (.int .i64 0) (.int .i64 0) (.string ⟨#[]⟩) (.slice none 0 0) := by
    have := (MapKept.heap_alloc ((w.alloc (.cells #[.pointer (some ⟨fb, 0, none⟩)] 23)).alloc (.cells #[.int .i64 op.kind, .string (bs op.path), .string (bs op.dst), .int .i64 op.h, .int .i64 op.at_, .int .i64 op.n, .string (bs op.data), .int .i64 op.pid, .int .i64 op.birth] 34)) (.cells #[.int .i64 0, .int .i64 0, .string ⟨#[]⟩, .slice none 0 0] 31)).1
    rw [hW0, show ((w.alloc (.cells #[.pointer (some ⟨fb, 0, none⟩)] 23)).alloc (.cells #[.int .i64 op.kind, .string (bs op.path), .string (bs op.dst), .int .i64 op.h, .int .i64 op.at_, .int .i64 op.n, .string (bs op.data), .int .i64 op.pid, .int .i64 op.birth] 34)).heap.size = w.heap.size + 2 by simp] at this
    exact this
  have CM := Lib.hid (made_any (h.below hb0).fs)
  have CY := Lib.hid (may_any op ok W0)
  have H := Lib.hid h
  have HB0 := Lib.hid hb0
  have HS0 := Lib.hid hs0
  have R0 := Lib.hid r0
  have BX := Lib.hid bx
  have K3 := Lib.hid k3
  have x0 := bx.c0; have x1 := bx.c1; have x2 := bx.c2; have x3 := bx.c3; have x4 := bx.c4; have x5 := bx.c5; have x6 := bx.c6; have x7 := bx.c7; have x8 := bx.c8
  have AFTER : Hid (∀ w1, Below W0.heap.size W0 w1 → ∃ W2, w1.alloc (.cells #[.int .i64 0, .int .i64 0, .string ⟨#[]⟩, .slice none 0 0] 31) = W2 ∧ Below w.heap.size w W2 ∧ W2.heap.size = w1.heap.size + 1 ∧ w.heap.size + 3 ≤ w1.heap.size ∧ FsAt W2 fb t hb F S N ∧ W2.cell? ⟨w.heap.size, 0, none⟩ = some (.pointer (some ⟨fb, 0, none⟩)) ∧ OB W2 (w.heap.size + 1) op ∧ RS W2 (w.heap.size + 2) (.int .i64 0) (.int .i64 0) (.string ⟨#[]⟩) (.slice none 0 0) ∧ RS W2 w1.heap.size (.int .i64 0) (.int .i64 0) (.string ⟨#[]⟩) (.slice none 0 0)) := by
    refine Lib.hid fun w1 hb1 => ?_
    have hb2 : Below W0.heap.size W0 (w1.alloc (.cells #[.int .i64 0, .int .i64 0, .string ⟨#[]⟩, .slice none 0 0] 31)) := hb1.alloc hb1.size _
    have hbw : Below w.heap.size w (w1.alloc (.cells #[.int .i64 0, .int .i64 0, .string ⟨#[]⟩, .slice none 0 0] 31)) := hb0.trans (hb2.mono hb0.size)
    exact ⟨_, rfl, hbw, by simp, by have := hb1.size; omega, h.below hbw, (hb2.cell (p := ⟨w.heap.size, 0, none⟩) (by show w.heap.size < _; omega)).trans k3, bx.below hb2, r0.below hb2, (MapKept.heap_alloc w1 _).1⟩
  rw [hm] at CY
  have NS : Hid (∀ b, w.heap.size ≤ b → ¬ S b) := Lib.hid fun b hb e => by have := h.lt _ e; omega
  have CC : Hid (∀ w2, FsAt w2 fb t hb F S N → Calls Tryz.prog 30 #[.pointer (some ⟨fb, 0, none⟩), .int .i64 o, .agg #[.int .i64 op.kind, .string (bs op.path), .string (bs op.dst), .int .i64 op.h, .int .i64 op.at_, .int .i64 op.n, .string (bs op.data), .int .i64 op.pid, .int .i64 op.birth]] w2 fun e w' => e = .returned (.agg #[.int .i64 (F.use o op).2.err, .int .i64 (F.use o op).2.n, .string (bs (F.use o op).2.data), .slice none 0 0]) ∧ (F.use o op).2.names = [] ∧ FsP w2 fb t hb (F.use o op).1 S (N + 2) w') := Lib.hid fun w2 h2 => fs_use h2 hN ho op ok hk
  have k1 : (op.kind == 1) = false := beq_false_of_ne (by omega)
  have k2 : (op.kind == 2) = false := beq_false_of_ne (by omega)
  have k3' : (op.kind == 3) = false := beq_false_of_ne (by omega)
  have k4 : (op.kind == 4) = false := beq_false_of_ne (by omega)
  have k10 : (op.kind == 10) = false := beq_false_of_ne (by omega)
  have k11 : (op.kind == 11) = false := beq_false_of_ne (by omega)
  have k12 : (op.kind == 12) = false := beq_false_of_ne (by omega)
  have k13 : (op.kind == 13) = false := beq_false_of_ne (by omega)
  generalize F.use o op = r at *
  clear hm hk ok
  unfold opV at CY ⊢
  clear bx hb0 r0 hs0 h
  go_enter Tryz.func9, Tryz.ntmps9
  go_wp2_with (first
    | (go_at_call 17; (with_reducible refine CM.out.mono ?_); rintro e w9 ⟨rfl, hw⟩; obtain rfl : W0 = w9 := hw.symm; clear hw)
    | (go_at_call 18; (with_reducible refine CY.out.mono ?_); rintro e w1 ⟨rfl, hb⟩; obtain ⟨W2, hW2, h1, h2, h3, h4, h5, h6, h7, h8⟩ := AFTER.out _ hb; have HBW := Lib.hid h1; have HSZ := Lib.hid (And.intro h2 h3); have HF := Lib.hid h4; have j3 := h5; have J3 := Lib.hid h5; have BX2 := Lib.hid h6; have R2 := Lib.hid h7; have Q2 := Lib.hid h8; have z0 := h6.c0; have z1 := h6.c1; have z2 := h6.c2; clear x0 x1 x2 x3 x4 x5 x6 x7 x8 h1 h2 h3 h4 h5 h6 h7 h8 hb k3; refine Hid.out ?_))
  refine Lib.hid ?_
  have z3 := BX2.out.c3; have z4 := BX2.out.c4; have z5 := BX2.out.c5; have z6 := BX2.out.c6; have z7 := BX2.out.c7; have z8 := BX2.out.c8
  go_wp2_with (first
    | (go_at_call 30; (with_reducible refine (CC.out _ HF.out).mono ?_); rintro e w3 ⟨rfl, hnm, hp⟩; have HP := Lib.hid hp; have HNM := Lib.hid hnm; have qa := Q2.out.ch hp.ch (NS.out _ (by have := HSZ.out; omega)); have ra := R2.out.ch hp.ch (NS.out _ (by omega)); have v0 := qa.c0; have v1 := qa.c1; have v2 := qa.c2; have v3 := qa.c3; have g0 := qa.fr 0; have g1 := qa.fr 1; have g2 := qa.fr 2; have g3 := qa.fr 3; have HG : Hid (Ch (fun b => b = w1.heap.size) w3 (set4 w3 w1.heap.size (.int .i64 r.2.err) (.int .i64 r.2.n) (.string (bs r.2.data)) (.slice none 0 0))) := Lib.hid (ch_set4 (M := fun b => b = w1.heap.size) _ _ _ _ _ _ rfl); have qa2 := qa.set4 (.int .i64 r.2.err) (.int .i64 r.2.n) (.string (bs r.2.data)) (.slice none 0 0); have ra2 := ra.ch HG.out (by have := HSZ.out; omega); obtain ⟨W3, hW3⟩ : ∃ W3, (((w3.setCell ⟨w1.heap.size, 0, none⟩ (.int .i64 r.2.err)).setCell ⟨w1.heap.size, 1, none⟩ (.int .i64 r.2.n)).setCell ⟨w1.heap.size, 2, none⟩ (.string (bs r.2.data))).setCell ⟨w1.heap.size, 3, none⟩ (.slice none 0 0) = W3 := ⟨_, rfl⟩; unfold set4 at HG qa2 ra2; rw [hW3] at HG qa2 ra2; have RA := Lib.hid ra2; have u0 := qa2.c0; have u1 := qa2.c1; have u2 := qa2.c2; have u3 := qa2.c3; have y0 := ra2.c0; have y1 := ra2.c1; have y2 := ra2.c2; have y3 := ra2.c3; have f0 := ra2.fr 0; have f1 := ra2.fr 1; have f2 := ra2.fr 2; have f3 := ra2.fr 3; clear hp qa ra qa2 ra2 hnm; refine Hid.out ?_))
  refine Lib.hid ?_
  go_wp2_with fail
  refine ret_res rfl rfl rfl (RA.out.set4 (.int .i64 r.2.err) (.int .i64 r.2.n) (.string (bs r.2.data)) (.slice none 0 0)) ⟨none, 0, 0, rfl, by rw [HNM.out]; exact Sl_nil _, ?_⟩
  exact (FsP.after HBW.out H.out HP.out (M := fun x => x = w1.heap.size ∨ x = w.heap.size + 2) (fun x e => by have := HSZ.out; rcases e with e | e <;> omega) ((HG.out.mono (fun x _ e => .inl e)).trans (ch_set4 (M := fun x => x = w.heap.size + 2) W3 (w.heap.size + 2) _ _ _ _ rfl) (fun x _ e => .inr e))).up (by omega)
end
end Go.Proofs.YtagdhghjcibfbaaGreatDoor

namespace Go.Proofs.YtagdhghjcibfbaaGreatDoor
open Go.RowKit
set_option linter.unusedVariables false
set_option linter.unusedSectionVars false
set_option maxRecDepth 100000

section
variable {w : World} {fb t hb : Nat} {F : Fs} {S : Nat → Prop} {N : Nat} (h : FsAt w fb t hb F S N) (hN : N < 999999000)
include h hN
set_option maxHeartbeats 2000000 in
theorem do_2 {o : Int} (ho : InI o) (op : OpT) (ok : OpOk op) (hm : mayB op = true) (hk : op.kind = 2) :
    Calls Tryz.prog 9 #[.pointer (some ⟨fb, 0, none⟩), .int .i64 o, opV op] w (DoR w fb t hb S (N + 3) ⟨(F.T.change op.path aRemove).1, F.H⟩ (errR (F.T.change op.path aRemove).2)) := by
  obtain ⟨W0, hW0⟩ : ∃ W0, ((w.alloc (.cells #[.pointer (some ⟨fb, 0, none⟩)] 23)).alloc (.cells #[.int .i64 op.kind, .string (bs op.path), .string (bs op.dst), .int .i64 op.h, .int .i64 op.at_, .int .i64 op.n, .string (bs op.data), .int .i64 op.pid, .int .i64 op.birth] 34)).alloc (.cells #[.int .i64 0, .int .i64 0, .string ⟨#[]⟩, .slice none 0 0] 31) = W0 := ⟨_, rfl⟩
  have hb0 : Below w.heap.size w W0 := by rw [← hW0]; exact (((Below.refl _ w).alloc (Nat.le_refl _) _).alloc (by simp) _).alloc (by simp; omega) _
  have hs0 : W0.heap.size = w.heap.size + 3 := by rw [← hW0]; simp
  have k3 : W0.cell? ⟨w.heap.size, 0, none⟩ = some (.pointer (some ⟨fb, 0, none⟩)) := by
    rw [← hW0, World.cell?_alloc_lt _ _ _ (by simp; omega), World.cell?_alloc_lt _ _ _ (by simp)]; exact World.cell?_alloc_new w _ _ _
  have bx : OB W0 (w.heap.size + 1) op := by
    have := (MapKept.heap_alloc (w.alloc (.cells #[.pointer (some ⟨fb, 0, none⟩)] 23)) (.cells #[.int .i64 op.kind, .string (bs op.path), .string (bs op.dst), .int .i64 op.h, .int .i64 op.at_, .int .i64 op.n, .string (bs op.data), .int .i64 op.pid, .int .i64 op.birth] 34)).1
    rw [show (w.alloc (.cells #[.pointer (some ⟨fb, 0, none⟩)] 23)).heap.size = w.heap.size + 1 by simp] at this
    rw [← hW0]
    exact (Below.heap_alloc _ _ _ (by simp)).trans this
  have r0 : RS W0 (w.heap.size + 2) (.int .i64 0) (.int .i64 0) (.string ⟨#[]⟩) (.slice none 0 0) := by
    have := (MapKept.heap_alloc ((w.alloc (.cells #[.pointer (some ⟨fb, 0, none⟩)] 23)).alloc (.cells #[.int .i64 op.kind, .string (bs op.path), .string (bs op.dst), .int .i64 op.h, .int .i64 op.at_, .int .i64 op.n, .string (bs op.data), .int .i64 op.pid, .int .i64 op.birth] 34)) (.cells #[.int .i64 0, .int .i64 0, .string ⟨#[]⟩, .slice none 0 0] 31)).1
    rw [hW0, show ((w.alloc (.cells #[.pointer (some ⟨fb, 0, none⟩)] 23)).alloc (.cells #[.int .i64 op.kind, .string (bs op.path), .string (bs op.dst), .int .i64 op.h, .int .i64 op.at_, .int .i64 op.n, .string (bs op.data), .int .i64 op.pid, .int .i64 op.birth] 34)).heap.size = w.heap.size + 2 by simp] at this
    exact this
  have CM := Lib.hid (made_any (h.below hb0).fs)
  have CY := Lib.hid (may_any op ok W0)
  have H := Lib.hid h
  have HB0 := Lib.hid hb0
  have HS0 := Lib.hid hs0
  have R0 := Lib.hid r0
  have BX := Lib.hid bx
  have K3 := Lib.hid k3
  have x0 := bx.c0; have x1 := bx.c1; have x2 := bx.c2; have x3 := bx.c3; have x4 := bx.c4; have x5 := bx.c5; have x6 := bx.c6; have x7 := bx.c7; have x8 := bx.c8
  have AFTER : Hid (∀ w1, Below W0.heap.size W0 w1 → ∃ W2, w1.alloc (.cells #[.int .i64 0, .int .i64 0, .string ⟨#[]⟩, .slice none 0 0] 31) = W2 ∧ Below w.heap.size w W2 ∧ W2.heap.size = w1.heap.size + 1 ∧ w.heap.size + 3 ≤ w1.heap.size ∧ FsAt W2 fb t hb F S N ∧ W2.cell? ⟨w.heap.size, 0, none⟩ = some (.pointer (some ⟨fb, 0, none⟩)) ∧ OB W2 (w.heap.size + 1) op ∧ RS W2 (w.heap.size + 2) (.int .i64 0) (.int .i64 0) (.string ⟨#[]⟩) (.slice none 0 0) ∧ RS W2 w1.heap.size (.int .i64 0) (.int .i64 0) (.string ⟨#[]⟩) (.slice none 0 0)) := by
    refine Lib.hid fun w1 hb1 => ?_
    have hb2 : Below W0.heap.size W0 (w1.alloc (.cells #[.int .i64 0, .int .i64 0, .string ⟨#[]⟩, .slice none 0 0] 31)) := hb1.alloc hb1.size _
    have hbw : Below w.heap.size w (w1.alloc (.cells #[.int .i64 0, .int .i64 0, .string ⟨#[]⟩, .slice none 0 0] 31)) := hb0.trans (hb2.mono hb0.size)
    exact ⟨_, rfl, hbw, by simp, by have := hb1.size; omega, h.below hbw, (hb2.cell (p := ⟨w.heap.size, 0, none⟩) (by show w.heap.size < _; omega)).trans k3, bx.below hb2, r0.below hb2, (MapKept.heap_alloc w1 _).1⟩
  rw [hm] at CY
  have NS : Hid (∀ b, w.heap.size ≤ b → ¬ S b) := Lib.hid fun b hb e => by have := h.lt _ e; omega
  have CC : Hid (∀ w2, FsAt w2 fb t hb F S N → Calls Tryz.prog 20 #[.pointer (some ⟨fb, 0, none⟩), .string (bs op.path), .func (.func 21) #[.pointer (some ⟨t, 0, none⟩)] #[]] w2.drew fun e w' => e = .returned (.int .i64 (F.T.change op.path aRemove).2) ∧ FsP w2.drew fb t hb ⟨(F.T.change op.path aRemove).1, F.H⟩ S (N + 1) w') :=
    Lib.hid fun w2 h2 => fs_change (h2.below (Below.refl _ w2).drew) (by omega) 21 #[.pointer (some ⟨t, 0, none⟩)] #[] (enters_of Tryz.func21 (by kernel_rfl) rfl) aRemove op.path ok.path (fun w3 hb3 x hx => tm_remove (h2.below ((Below.refl _ w2).drew.trans hb3)) (by omega) hx (nameL op.path))
  have HFB := Lib.hid h.fs.lt
  generalize (F.T.change op.path aRemove).2 = er at *
  generalize (F.T.change op.path aRemove).1 = T1 at *
  have HK := Lib.hid hk
  clear hm hk ok
  unfold opV at CY ⊢
  clear bx hb0 r0 hs0 h
  go_enter Tryz.func9, Tryz.ntmps9
  go_wp2_with (first
    | (go_at_call 17; (with_reducible refine CM.out.mono ?_); rintro e w9 ⟨rfl, hw⟩; obtain rfl : W0 = w9 := hw.symm; clear hw)
    | (go_at_call 18; (with_reducible refine CY.out.mono ?_); rintro e w1 ⟨rfl, hb⟩; obtain ⟨W2, hW2, h1, h2, h3, h4, h5, h6, h7, h8⟩ := AFTER.out _ hb; have HBW := Lib.hid h1; have HSZ := Lib.hid (And.intro h2 h3); have HF := Lib.hid h4; have j3 := h5; have J3 := Lib.hid h5; have BX2 := Lib.hid h6; have R2 := Lib.hid h7; have Q2 := Lib.hid h8; have z0 := h6.c0; have z1 := h6.c1; have z2 := h6.c2; clear x0 x1 x2 x3 x4 x5 x6 x7 x8 h1 h2 h3 h4 h5 h6 h7 h8 hb k3; refine Hid.out ?_))
  refine Lib.hid ?_
  rw [HK.out] at z0
  have c0 : W2.cell? ⟨fb, 0, none⟩ = some (.pointer (some ⟨t, 0, none⟩)) := HF.out.fs.c0
  have hn1 : ¬ S w.heap.size := NS.out _ (Nat.le_refl _)
  have hn2 : ¬ S (w.heap.size + 1) := NS.out _ (Nat.le_succ _)
  have KEEP : Hid (∀ (wc : World) F' N', FsP W2.drew fb t hb F' S N' wc → wc.cell? ⟨w.heap.size, 0, none⟩ = some (.pointer (some ⟨fb, 0, none⟩)) ∧ wc.cell? ⟨w.heap.size + 1, 1, none⟩ = some (.string (bs op.path)) ∧ wc.cell? ⟨fb, 0, none⟩ = some (.pointer (some ⟨t, 0, none⟩))) := Lib.hid fun wc F' N' hp =>
    ⟨cell_ch (w := W2.drew) J3.out hp.ch hn1, (OB.ch (w := W2.drew) BX2.out hp.ch hn2).c1, hp.at_.fs.c0⟩
  have KEEP2 : Hid (∀ (wc : World) (v : Value), (wc.cell? ⟨w.heap.size, 0, none⟩ = some (.pointer (some ⟨fb, 0, none⟩)) ∧ wc.cell? ⟨w.heap.size + 1, 1, none⟩ = some (.string (bs op.path)) ∧ wc.cell? ⟨fb, 0, none⟩ = some (.pointer (some ⟨t, 0, none⟩))) → (wc.setCell ⟨w1.heap.size, 0, none⟩ v).cell? ⟨w.heap.size, 0, none⟩ = some (.pointer (some ⟨fb, 0, none⟩)) ∧ (wc.setCell ⟨w1.heap.size, 0, none⟩ v).cell? ⟨w.heap.size + 1, 1, none⟩ = some (.string (bs op.path)) ∧ (wc.setCell ⟨w1.heap.size, 0, none⟩ v).cell? ⟨fb, 0, none⟩ = some (.pointer (some ⟨t, 0, none⟩))) := by
    have e1 : w1.heap.size ≠ w.heap.size := by have := HSZ.out; omega
    have e2 : w1.heap.size ≠ w.heap.size + 1 := by have := HSZ.out; omega
    have e3 : w1.heap.size ≠ fb := by have := HSZ.out; have := HFB.out; omega
    exact Lib.hid fun wc v hs => ⟨(World.cell?_setCell_other _ _ _ _ (fun e => e1 (congrArg Addr.block e))).trans hs.1, (World.cell?_setCell_other _ _ _ _ (fun e => e2 (congrArg Addr.block e))).trans hs.2.1, (World.cell?_setCell_other _ _ _ _ (fun e => e3 (congrArg Addr.block e))).trans hs.2.2⟩
  clear hn1 hn2
  have hx0 := J3.out
  go_wp2_with fail
  go_region_held3 (fun w' => w'.cell? ⟨w.heap.size, 0, none⟩ = some (.pointer (some ⟨fb, 0, none⟩)) ∧ w'.cell? ⟨w.heap.size + 1, 1, none⟩ = some (.string (bs op.path)) ∧ w'.cell? ⟨fb, 0, none⟩ = some (.pointer (some ⟨t, 0, none⟩)))
    (first | exact ⟨hx0, z1, c0⟩ | exact KEEP.out _ _ _ hbc | exact KEEP2.out _ _ (KEEP.out _ _ _ hbc) | go_keep)
    (first
      | (go_at_call 20; (with_reducible refine (CC.out _ HF.out).mono ?_); rintro e wc ⟨rfl, hbc⟩; have qa := RS.ch (w := W2.drew) Q2.out hbc.ch (NS.out _ (by have := HSZ.out; omega)); have ra := RS.ch (w := W2.drew) R2.out hbc.ch (NS.out _ (by omega)); have v0 := qa.c0; have g0 := qa.fr 0; have QA := Lib.hid qa; have RA := Lib.hid ra; clear ra qa))
  have HG : Hid (Ch (fun b => b = w1.heap.size) wc (wc.setCell ⟨w1.heap.size, 0, none⟩ (.int .i64 er))) := Lib.hid (Ch.set _ ⟨w1.heap.size, 0, none⟩ _ rfl)
  have qa2 := QA.out.s0 (y := .int .i64 er)
  have ra2 := RA.out.ch HG.out (by have := HSZ.out; omega)
  have HBC := Lib.hid hbc
  clear v0 g0 z0 z1 z2 c0 QA RA hbc KEEP KEEP2 hx0 j3
  generalize wc.setCell ⟨w1.heap.size, 0, none⟩ (.int .i64 er) = W3 at *
  have RA := Lib.hid ra2
  have u0 := qa2.c0; have u1 := qa2.c1; have u2 := qa2.c2; have u3 := qa2.c3; have y0 := ra2.c0; have y1 := ra2.c1; have y2 := ra2.c2; have y3 := ra2.c3; have f0 := ra2.fr 0; have f1 := ra2.fr 1; have f2 := ra2.fr 2; have f3 := ra2.fr 3
  clear qa2 ra2
  go_wp2_with fail
  refine ret_res rfl rfl rfl (RA.out.set4 (.int .i64 er) (.int .i64 0) (.string ⟨#[]⟩) (.slice none 0 0)) ⟨none, 0, 0, rfl, Sl_nil _, ?_⟩
  exact (FsP.after HBW.out.drew H.out HBC.out (M := fun x => x = w1.heap.size ∨ x = w.heap.size + 2) (fun x e => by have := HSZ.out; show _ ∧ x < W2.heap.size; rcases e with e | e <;> omega) ((HG.out.mono (fun x _ e => .inl e)).trans (ch_set4 (M := fun x => x = w.heap.size + 2) W3 (w.heap.size + 2) _ _ _ _ rfl) (fun x _ e => .inr e))).up (by omega)
set_option maxHeartbeats 2000000 in
theorem do_11 {o : Int} (ho : InI o) (op : OpT) (ok : OpOk op) (hm : mayB op = true) (hk : op.kind = 11) :
    Calls Tryz.prog 9 #[.pointer (some ⟨fb, 0, none⟩), .int .i64 o, opV op] w (DoR w fb t hb S (N + 3) ⟨(F.T.change op.path aUnlink).1, F.H⟩ (errR (F.T.change op.path aUnlink).2)) := by
  obtain ⟨W0, hW0⟩ : ∃ W0, ((w.alloc (.cells #[.pointer (some ⟨fb, 0, none⟩)] 23)).alloc (.cells #[.int .i64 op.kind, .string (bs op.path), .string (bs op.dst), .int .i64 op.h, .int .i64 op.at_, .int .i64 op.n, .string (bs op.data), .int .i64 op.pid, .int .i64 op.birth] 34)).alloc (.cells #[.int .i64 0, .int .i64 0, .string ⟨#[]⟩, .slice none 0 0] 31) = W0 := ⟨_, rfl⟩
  have hb0 : Below w.heap.size w W0 := by rw [← hW0]; exact (((Below.refl _ w).alloc (Nat.le_refl _) _).alloc (by simp) _).alloc (by simp; omega) _
  have hs0 : W0.heap.size = w.heap.size + 3 := by rw [← hW0]; simp
  have k3 : W0.cell? ⟨w.heap.size, 0, none⟩ = some (.pointer (some ⟨fb, 0, none⟩)) := by
    rw [← hW0, World.cell?_alloc_lt _ _ _ (by simp; omega), World.cell?_alloc_lt _ _ _ (by simp)]; exact World.cell?_alloc_new w _ _ _
  have bx : OB W0 (w.heap.size + 1) op := by
    have := (MapKept.heap_alloc (w.alloc (.cells #[.pointer (some ⟨fb, 0, none⟩)] 23)) (.cells #[.int .i64 op.kind, .string (bs op.path), .string (bs op.dst), .int .i64 op.h, .int .i64 op.at_, .int .i64 op.n, .string (bs op.data), .int .i64 op.pid, .int .i64 op.birth] 34)).1
    rw [show (w.alloc (.cells #[.pointer (some ⟨fb, 0, none⟩)] 23)).heap.size = w.heap.size + 1 by simp] at this
    rw [← hW0]
    exact (Below.heap_alloc _ _ _ (by simp)).trans this
  have r0 : RS W0 (w.heap.size + 2) (.int .i64 0) (.int .i64 0) (.string ⟨#[]⟩) (.slice none 0 0) := by
    have := (MapKept.heap_alloc ((w.alloc (.cells #[.pointer (some ⟨fb, 0, none⟩)] 23)).alloc (.cells #[.int .i64 op.kind, .string (bs op.path), .string (bs op.dst), .int .i64 op.h, .int .i64 op.at_, .int .i64 op.n, .string (bs op.data), .int .i64 op.pid, .int .i64 op.birth] 34)) (.cells #[.int .i64 0, .int .i64 0, .string ⟨#[]⟩, .slice none 0 0] 31)).1
    rw [hW0, show ((w.alloc (.cells #[.pointer (some ⟨fb, 0, none⟩)] 23)).alloc (.cells #[.int .i64 op.kind, .string (bs op.path), .string (bs op.dst), .int .i64 op.h, .int .i64 op.at_, .int .i64 op.n, .string (bs op.data), .int .i64 op.pid, .int .i64 op.birth] 34)).heap.size = w.heap.size + 2 by simp] at this
    exact this
  have CM := Lib.hid (made_any (h.below hb0).fs)
  have CY := Lib.hid (may_any op ok W0)
  have H := Lib.hid h
  have HB0 := Lib.hid hb0
  have HS0 := Lib.hid hs0
  have R0 := Lib.hid r0
  have BX := Lib.hid bx
  have K3 := Lib.hid k3
  have x0 := bx.c0; have x1 := bx.c1; have x2 := bx.c2; have x3 := bx.c3; have x4 := bx.c4; have x5 := bx.c5; have x6 := bx.c6; have x7 := bx.c7; have x8 := bx.c8
  have AFTER : Hid (∀ w1, Below W0.heap.size W0 w1 → ∃ W2, w1.alloc (.cells #[.int .i64 0, .int .i64 0, .string ⟨#[]⟩, .slice none 0 0] 31) = W2 ∧ Below w.heap.size w W2 ∧ W2.heap.size = w1.heap.size + 1 ∧ w.heap.size + 3 ≤ w1.heap.size ∧ FsAt W2 fb t hb F S N ∧ W2.cell? ⟨w.heap.size, 0, none⟩ = some (.pointer (some ⟨fb, 0, none⟩)) ∧ OB W2 (w.heap.size + 1) op ∧ RS W2 (w.heap.size + 2) (.int .i64 0) (.int .i64 0) (.string ⟨#[]⟩) (.slice none 0 0) ∧ RS W2 w1.heap.size (.int .i64 0) (.int .i64 0) (.string ⟨#[]⟩) (.slice none 0 0)) := by
    refine Lib.hid fun w1 hb1 => ?_
    have hb2 : Below W0.heap.size W0 (w1.alloc (.cells #[.int .i64 0, .int .i64 0, .string ⟨#[]⟩, .slice none 0 0] 31)) := hb1.alloc hb1.size _
    have hbw : Below w.heap.size w (w1.alloc (.cells #[.int .i64 0, .int .i64 0, .string ⟨#[]⟩, .slice none 0 0] 31)) := hb0.trans (hb2.mono hb0.size)
    exact ⟨_, rfl, hbw, by simp, by have := hb1.size; omega, h.below hbw, (hb2.cell (p := ⟨w.heap.size, 0, none⟩) (by show w.heap.size < _; omega)).trans k3, bx.below hb2, r0.below hb2, (MapKept.heap_alloc w1 _).1⟩
  rw [hm] at CY
  have NS : Hid (∀ b, w.heap.size ≤ b → ¬ S b) := Lib.hid fun b hb e => by have := h.lt _ e; omega
  have CC : Hid (∀ w2, FsAt w2 fb t hb F S N → Calls Tryz.prog 20 #[.pointer (some ⟨fb, 0, none⟩), .string (bs op.path), .func (.func 27) #[.pointer (some ⟨t, 0, none⟩)] #[]] w2.drew fun e w' => e = .returned (.int .i64 (F.T.change op.path aUnlink).2) ∧ FsP w2.drew fb t hb ⟨(F.T.change op.path aUnlink).1, F.H⟩ S (N + 1) w') :=
    Lib.hid fun w2 h2 => fs_change (h2.below (Below.refl _ w2).drew) (by omega) 27 #[.pointer (some ⟨t, 0, none⟩)] #[] (enters_of Tryz.func27 (by kernel_rfl) rfl) aUnlink op.path ok.path (fun w3 hb3 x hx => tm_unlink (h2.below ((Below.refl _ w2).drew.trans hb3)) (by omega) hx (nameL op.path))
  have HFB := Lib.hid h.fs.lt
  generalize (F.T.change op.path aUnlink).2 = er at *
  generalize (F.T.change op.path aUnlink).1 = T1 at *
  have HK := Lib.hid hk
  clear hm hk ok
  unfold opV at CY ⊢
  clear bx hb0 r0 hs0 h
  go_enter Tryz.func9, Tryz.ntmps9
  go_wp2_with (first
    | (go_at_call 17; (with_reducible refine CM.out.mono ?_); rintro e w9 ⟨rfl, hw⟩; obtain rfl : W0 = w9 := hw.symm; clear hw)
    | (go_at_call 18; (with_reducible refine CY.out.mono ?_); rintro e w1 ⟨rfl, hb⟩; obtain ⟨W2, hW2, h1, h2, h3, h4, h5, h6, h7, h8⟩ := AFTER.out _ hb; have HBW := Lib.hid h1; have HSZ := Lib.hid (And.intro h2 h3); have HF := Lib.hid h4; have j3 := h5; have J3 := Lib.hid h5; have BX2 := Lib.hid h6; have R2 := Lib.hid h7; have Q2 := Lib.hid h8; have z0 := h6.c0; have z1 := h6.c1; have z2 := h6.c2; clear x0 x1 x2 x3 x4 x5 x6 x7 x8 h1 h2 h3 h4 h5 h6 h7 h8 hb k3; refine Hid.out ?_))
  refine Lib.hid ?_
  rw [HK.out] at z0
  have c0 : W2.cell? ⟨fb, 0, none⟩ = some (.pointer (some ⟨t, 0, none⟩)) := HF.out.fs.c0
  have hn1 : ¬ S w.heap.size := NS.out _ (Nat.le_refl _)
  have hn2 : ¬ S (w.heap.size + 1) := NS.out _ (Nat.le_succ _)
  have KEEP : Hid (∀ (wc : World) F' N', FsP W2.drew fb t hb F' S N' wc → wc.cell? ⟨w.heap.size, 0, none⟩ = some (.pointer (some ⟨fb, 0, none⟩)) ∧ wc.cell? ⟨w.heap.size + 1, 1, none⟩ = some (.string (bs op.path)) ∧ wc.cell? ⟨fb, 0, none⟩ = some (.pointer (some ⟨t, 0, none⟩))) := Lib.hid fun wc F' N' hp =>
    ⟨cell_ch (w := W2.drew) J3.out hp.ch hn1, (OB.ch (w := W2.drew) BX2.out hp.ch hn2).c1, hp.at_.fs.c0⟩
  have KEEP2 : Hid (∀ (wc : World) (v : Value), (wc.cell? ⟨w.heap.size, 0, none⟩ = some (.pointer (some ⟨fb, 0, none⟩)) ∧ wc.cell? ⟨w.heap.size + 1, 1, none⟩ = some (.string (bs op.path)) ∧ wc.cell? ⟨fb, 0, none⟩ = some (.pointer (some ⟨t, 0, none⟩))) → (wc.setCell ⟨w1.heap.size, 0, none⟩ v).cell? ⟨w.heap.size, 0, none⟩ = some (.pointer (some ⟨fb, 0, none⟩)) ∧ (wc.setCell ⟨w1.heap.size, 0, none⟩ v).cell? ⟨w.heap.size + 1, 1, none⟩ = some (.string (bs op.path)) ∧ (wc.setCell ⟨w1.heap.size, 0, none⟩ v).cell? ⟨fb, 0, none⟩ = some (.pointer (some ⟨t, 0, none⟩))) := by
    have e1 : w1.heap.size ≠ w.heap.size := by have := HSZ.out; omega
    have e2 : w1.heap.size ≠ w.heap.size + 1 := by have := HSZ.out; omega
    have e3 : w1.heap.size ≠ fb := by have := HSZ.out; have := HFB.out; omega
    exact Lib.hid fun wc v hs => ⟨(World.cell?_setCell_other _ _ _ _ (fun e => e1 (congrArg Addr.block e))).trans hs.1, (World.cell?_setCell_other _ _ _ _ (fun e => e2 (congrArg Addr.block e))).trans hs.2.1, (World.cell?_setCell_other _ _ _ _ (fun e => e3 (congrArg Addr.block e))).trans hs.2.2⟩
  clear hn1 hn2
  have hx0 := J3.out
  go_wp2_with fail
  go_region_held3 (fun w' => w'.cell? ⟨w.heap.size, 0, none⟩ = some (.pointer (some ⟨fb, 0, none⟩)) ∧ w'.cell? ⟨w.heap.size + 1, 1, none⟩ = some (.string (bs op.path)) ∧ w'.cell? ⟨fb, 0, none⟩ = some (.pointer (some ⟨t, 0, none⟩)))
    (first | exact ⟨hx0, z1, c0⟩ | exact KEEP.out _ _ _ hbc | exact KEEP2.out _ _ (KEEP.out _ _ _ hbc) | go_keep)
    (first
      | (go_at_call 20; (with_reducible refine (CC.out _ HF.out).mono ?_); rintro e wc ⟨rfl, hbc⟩; have qa := RS.ch (w := W2.drew) Q2.out hbc.ch (NS.out _ (by have := HSZ.out; omega)); have ra := RS.ch (w := W2.drew) R2.out hbc.ch (NS.out _ (by omega)); have v0 := qa.c0; have g0 := qa.fr 0; have QA := Lib.hid qa; have RA := Lib.hid ra; clear ra qa))
  have HG : Hid (Ch (fun b => b = w1.heap.size) wc (wc.setCell ⟨w1.heap.size, 0, none⟩ (.int .i64 er))) := Lib.hid (Ch.set _ ⟨w1.heap.size, 0, none⟩ _ rfl)
  have qa2 := QA.out.s0 (y := .int .i64 er)
  have ra2 := RA.out.ch HG.out (by have := HSZ.out; omega)
  have HBC := Lib.hid hbc
  clear v0 g0 z0 z1 z2 c0 QA RA hbc KEEP KEEP2 hx0 j3
  generalize wc.setCell ⟨w1.heap.size, 0, none⟩ (.int .i64 er) = W3 at *
  have RA := Lib.hid ra2
  have u0 := qa2.c0; have u1 := qa2.c1; have u2 := qa2.c2; have u3 := qa2.c3; have y0 := ra2.c0; have y1 := ra2.c1; have y2 := ra2.c2; have y3 := ra2.c3; have f0 := ra2.fr 0; have f1 := ra2.fr 1; have f2 := ra2.fr 2; have f3 := ra2.fr 3
  clear qa2 ra2
  go_wp2_with fail
  refine ret_res rfl rfl rfl (RA.out.set4 (.int .i64 er) (.int .i64 0) (.string ⟨#[]⟩) (.slice none 0 0)) ⟨none, 0, 0, rfl, Sl_nil _, ?_⟩
  exact (FsP.after HBW.out.drew H.out HBC.out (M := fun x => x = w1.heap.size ∨ x = w.heap.size + 2) (fun x e => by have := HSZ.out; show _ ∧ x < W2.heap.size; rcases e with e | e <;> omega) ((HG.out.mono (fun x _ e => .inl e)).trans (ch_set4 (M := fun x => x = w.heap.size + 2) W3 (w.heap.size + 2) _ _ _ _ rfl) (fun x _ e => .inr e))).up (by omega)
theorem fs_do {o : Int} (ho : InI o) (op : OpT) (ok : OpOk op) :
    Calls Tryz.prog 9 #[.pointer (some ⟨fb, 0, none⟩), .int .i64 o, opV op] w (DoR w fb t hb S (N + 3) (F.step o op).1 (F.step o op).2) := by
  unfold Fs.step
  by_cases hm : mayB op = false
  · rw [if_pos hm]; exact do_no h hN ho op ok hm
  rw [if_neg hm]
  replace hm : mayB op = true := by simpa using hm
  by_cases k1 : op.kind = 1
  · rw [if_pos k1]; exact do_1 h hN ho op ok hm k1
  rw [if_neg k1]
  by_cases k2 : op.kind = 2
  · rw [if_pos k2]; exact do_2 h hN ho op ok hm k2
  rw [if_neg k2]
  by_cases k3 : op.kind = 3
  · rw [if_pos k3]; exact do_3 h hN ho op ok hm k3
  rw [if_neg k3]
  by_cases k4 : op.kind = 4
  · rw [if_pos k4]; exact do_4 h hN ho op ok hm k4
  rw [if_neg k4]
  by_cases k10 : op.kind = 10
  · rw [if_pos k10]; exact do_10 h hN ho op ok hm k10
  rw [if_neg k10]
  by_cases k11 : op.kind = 11
  · rw [if_pos k11]; exact do_11 h hN ho op ok hm k11
  rw [if_neg k11]
  by_cases k12 : op.kind = 12
  · rw [if_pos k12]; exact do_12 h hN ho op ok hm k12
  rw [if_neg k12]
  by_cases k13 : op.kind = 13
  · rw [if_pos k13]; exact do_13 h hN ho op ok hm k13
  rw [if_neg k13]
  refine do_use h hN ho op ok hm ?_
  unfold mayB at hm
  rw [if_neg (by omega), if_neg (by omega), if_neg k13] at hm
  exact of_decide_eq_true hm
end
end Go.Proofs.YtagdhghjcibfbaaGreatDoor

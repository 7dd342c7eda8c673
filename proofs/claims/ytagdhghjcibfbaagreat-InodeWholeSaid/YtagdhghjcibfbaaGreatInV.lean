/- Layer 8: the law's do: an act on a table that lies in memory. -/
import Derived.Test.YtagdhghjcibfbaaGreatInDp
namespace Go.Proofs.YtagdhghjcibfbaaGreat
open Go.RowKit
set_option linter.unusedVariables false
set_option linter.unusedSectionVars false
set_option maxRecDepth 100000

def actV (a : AcT) : Value := .agg #[.int .i64 a.kind, .int .i64 a.id, .int .i64 a.dir, .int .i64 a.at_, .int .i64 a.n, .string (bs a.name), .string (bs a.nm), .bool a.flag]
structure ActOk (a : AcT) : Prop where
  kind : InI a.kind
  id : InI a.id
  dir : InI a.dir
  at_ : InI a.at_
  n : InI a.n
  nm : a.nm.length ≤ 140737488355328
def BX (w : World) (b : Nat) (a : AcT) : Prop := w.heap[b]? = some (.cells #[.int .i64 a.kind, .int .i64 a.id, .int .i64 a.dir, .int .i64 a.at_, .int .i64 a.n, .string (bs a.name), .string (bs a.nm), .bool a.flag] 36 (0, 0))
section
variable {w : World} {b : Nat} {a : AcT} (h : BX w b a)
include h
theorem BX.c0 : w.cell? ⟨b, 0, none⟩ = some (.int .i64 a.kind) := by unfold BX at h; simp [World.cell?, h]
theorem BX.c1 : w.cell? ⟨b, 1, none⟩ = some (.int .i64 a.id) := by unfold BX at h; simp [World.cell?, h]
theorem BX.c2 : w.cell? ⟨b, 2, none⟩ = some (.int .i64 a.dir) := by unfold BX at h; simp [World.cell?, h]
theorem BX.c3 : w.cell? ⟨b, 3, none⟩ = some (.int .i64 a.at_) := by unfold BX at h; simp [World.cell?, h]
theorem BX.c4 : w.cell? ⟨b, 4, none⟩ = some (.int .i64 a.n) := by unfold BX at h; simp [World.cell?, h]
theorem BX.c5 : w.cell? ⟨b, 5, none⟩ = some (.string (bs a.name)) := by unfold BX at h; simp [World.cell?, h]
theorem BX.c6 : w.cell? ⟨b, 6, none⟩ = some (.string (bs a.nm)) := by unfold BX at h; simp [World.cell?, h]
theorem BX.c7 : w.cell? ⟨b, 7, none⟩ = some (.bool a.flag) := by unfold BX at h; simp [World.cell?, h]
end
section
variable {w : World} {t : Nat} {T : Tb} {A : Int → Nat × Nat} {mb : Nat} {S : Nat → Prop} (h : TbAt w t T A mb) (hS : ∀ k, Own t mb A T.nodes k → S k) (wf : Wf T) {N : Nat} (bd : Bd T N) (hN : N < 1000000000) (a : AcT) (ao : ActOk a)
include h hS wf bd hN ao
theorem do1 (hk : a.kind = 1) : Calls Tryz.prog 10 #[.pointer (some ⟨t, 0, none⟩), actV a] w fun e w' => e = .returned (.tuple #[.int .i64 (T.step a).2.1, .string (bs (T.step a).2.2.1), .int .i64 (T.step a).2.2.2]) ∧ DoP w t (T.step a).1 S w' := by
  have hst : T.step a = (if T.mkE a.dir a.name = 0 then T.make a.dir a.name a.flag else T, if T.mkE a.dir a.name = 0 then T.last + 1 else 0, [], T.mkE a.dir a.name) := by unfold Tb.step; rw [if_pos hk]
  rw [hst]
  have ok := bd.ok wf hN
  obtain ⟨W0, hW0⟩ : ∃ W0, w.alloc (.cells #[.int .i64 a.kind, .int .i64 a.id, .int .i64 a.dir, .int .i64 a.at_, .int .i64 a.n, .string (bs a.name), .string (bs a.nm), .bool a.flag] 36) = W0 := ⟨_, rfl⟩
  have hb0 : Below w.heap.size w W0 := by rw [← hW0]; exact (Below.refl _ w).alloc (Nat.le_refl _) _
  have bx : BX W0 w.heap.size a := by rw [← hW0]; exact (MapKept.heap_alloc w _).1
  have h0 : TbAt W0 t T A mb := h.below hb0
  have x0 := bx.c0
  have x2 := bx.c2
  have x5 := bx.c5
  have x7 := bx.c7
  rw [hk] at x0
  have C := Lib.hid (make_any h0 ok wf.fresh ao.dir a.name a.flag)
  have HB0 := Lib.hid hb0
  unfold actV
  rw [hk] at hW0 ⊢
  generalize (if T.mkE a.dir a.name = 0 then T.make a.dir a.name a.flag else T) = g0 at *
  generalize (if T.mkE a.dir a.name = 0 then T.last + 1 else 0) = g1 at *
  generalize (T.mkE a.dir a.name) = g2 at *
  clear hst bx h0 hb0 ok wf bd hN ao hk h
  go_enter Tryz.func10, Tryz.ntmps10
  go_wp2_with (go_at_call 17; (with_reducible refine C.out.mono ?_); rintro e w1 ⟨rfl, A', hl⟩; have HL := Lib.hid hl; clear hl)
  go_ret3
  exact ⟨rfl, doP_leftX HB0.out HL.out hS⟩
theorem do2 (hk : a.kind = 2) : Calls Tryz.prog 10 #[.pointer (some ⟨t, 0, none⟩), actV a] w fun e w' => e = .returned (.tuple #[.int .i64 (T.step a).2.1, .string (bs (T.step a).2.2.1), .int .i64 (T.step a).2.2.2]) ∧ DoP w t (T.step a).1 S w' := by
  have hst : T.step a = (T, if T.entE a.dir a.name = 0 then T.tgt a.dir a.name else 0, [], T.entE a.dir a.name) := by unfold Tb.step; rw [if_neg (by omega)]; rw [if_pos hk]
  rw [hst]
  have ok := bd.ok wf hN
  obtain ⟨W0, hW0⟩ : ∃ W0, w.alloc (.cells #[.int .i64 a.kind, .int .i64 a.id, .int .i64 a.dir, .int .i64 a.at_, .int .i64 a.n, .string (bs a.name), .string (bs a.nm), .bool a.flag] 36) = W0 := ⟨_, rfl⟩
  have hb0 : Below w.heap.size w W0 := by rw [← hW0]; exact (Below.refl _ w).alloc (Nat.le_refl _) _
  have bx : BX W0 w.heap.size a := by rw [← hW0]; exact (MapKept.heap_alloc w _).1
  have h0 : TbAt W0 t T A mb := h.below hb0
  have x0 := bx.c0
  have x2 := bx.c2
  have x5 := bx.c5
  rw [hk] at x0
  have H := Lib.hid h
  have C := Lib.hid (find_any h0 ao.dir a.name)
  have HB0 := Lib.hid hb0
  unfold actV
  rw [hk] at hW0 ⊢
  generalize (if T.entE a.dir a.name = 0 then T.tgt a.dir a.name else 0) = g0 at *
  generalize (T.entE a.dir a.name) = g1 at *
  clear hst bx h0 hb0 ok wf bd hN ao hk h
  go_enter Tryz.func10, Tryz.ntmps10
  go_wp2_with (go_at_call 25; (with_reducible refine C.out.mono ?_); rintro e w1 ⟨rfl, hb⟩; have HB := Lib.hid hb; clear hb)
  go_ret3
  exact ⟨rfl, doP_below H.out (HB0.out.trans (HB.out.mono HB0.out.size)) hS⟩
theorem do3 (hk : a.kind = 3) : Calls Tryz.prog 10 #[.pointer (some ⟨t, 0, none⟩), actV a] w fun e w' => e = .returned (.tuple #[.int .i64 (T.step a).2.1, .string (bs (T.step a).2.2.1), .int .i64 (T.step a).2.2.2]) ∧ DoP w t (T.step a).1 S w' := by
  have hst : T.step a = (if T.linkE a.id a.dir a.name = 0 then T.link a.id a.dir a.name else T, 0, [], T.linkE a.id a.dir a.name) := by unfold Tb.step; rw [if_neg (by omega)]; rw [if_neg (by omega)]; rw [if_pos hk]
  rw [hst]
  have ok := bd.ok wf hN
  obtain ⟨W0, hW0⟩ : ∃ W0, w.alloc (.cells #[.int .i64 a.kind, .int .i64 a.id, .int .i64 a.dir, .int .i64 a.at_, .int .i64 a.n, .string (bs a.name), .string (bs a.nm), .bool a.flag] 36) = W0 := ⟨_, rfl⟩
  have hb0 : Below w.heap.size w W0 := by rw [← hW0]; exact (Below.refl _ w).alloc (Nat.le_refl _) _
  have bx : BX W0 w.heap.size a := by rw [← hW0]; exact (MapKept.heap_alloc w _).1
  have h0 : TbAt W0 t T A mb := h.below hb0
  have x0 := bx.c0
  have x1 := bx.c1
  have x2 := bx.c2
  have x5 := bx.c5
  rw [hk] at x0
  have C := Lib.hid (link_any h0 ok ao.id ao.dir a.name)
  have HO : Hid (∀ k, Own t mb A (if T.linkE a.id a.dir a.name = 0 then T.link a.id a.dir a.name else T).nodes k → Own t mb A T.nodes k) := Lib.hid (fun k hk => by split at hk; exact own_upd (f := Nd.putName a.name a.id) (fun _ => rfl) k (own_upd (f := Nd.addLinks 1) (fun _ => rfl) k hk); exact hk)
  have HB0 := Lib.hid hb0
  unfold actV
  rw [hk] at hW0 ⊢
  generalize (if T.linkE a.id a.dir a.name = 0 then T.link a.id a.dir a.name else T) = g0 at *
  generalize (T.linkE a.id a.dir a.name) = g1 at *
  clear hst bx h0 hb0 ok wf bd hN ao hk h
  go_enter Tryz.func10, Tryz.ntmps10
  go_wp2_with (go_at_call 19; (with_reducible refine C.out.mono ?_); rintro e w1 ⟨rfl, hl⟩; have HL := Lib.hid hl; clear hl)
  go_ret3
  exact ⟨rfl, doP_left HB0.out HL.out hS HO.out⟩
theorem do4 (hk : a.kind = 4) : Calls Tryz.prog 10 #[.pointer (some ⟨t, 0, none⟩), actV a] w fun e w' => e = .returned (.tuple #[.int .i64 (T.step a).2.1, .string (bs (T.step a).2.2.1), .int .i64 (T.step a).2.2.2]) ∧ DoP w t (T.step a).1 S w' := by
  have hst : T.step a = (if T.ofE a.dir a.name false = 0 then T.unlink a.dir a.name else T, 0, [], T.ofE a.dir a.name false) := by unfold Tb.step; rw [if_neg (by omega)]; rw [if_neg (by omega)]; rw [if_neg (by omega)]; rw [if_pos hk]
  rw [hst]
  have ok := bd.ok wf hN
  obtain ⟨W0, hW0⟩ : ∃ W0, w.alloc (.cells #[.int .i64 a.kind, .int .i64 a.id, .int .i64 a.dir, .int .i64 a.at_, .int .i64 a.n, .string (bs a.name), .string (bs a.nm), .bool a.flag] 36) = W0 := ⟨_, rfl⟩
  have hb0 : Below w.heap.size w W0 := by rw [← hW0]; exact (Below.refl _ w).alloc (Nat.le_refl _) _
  have bx : BX W0 w.heap.size a := by rw [← hW0]; exact (MapKept.heap_alloc w _).1
  have h0 : TbAt W0 t T A mb := h.below hb0
  have x0 := bx.c0
  have x2 := bx.c2
  have x5 := bx.c5
  rw [hk] at x0
  have C := Lib.hid (unlink_any h0 ok ao.dir a.name)
  have HO : Hid (∀ k, Own t mb A (if T.ofE a.dir a.name false = 0 then T.unlink a.dir a.name else T).nodes k → Own t mb A T.nodes k) := Lib.hid (fun k hk => by split at hk; exact own_upd (f := Nd.delName a.name) (fun _ => rfl) k (own_lose k hk); exact hk)
  have HB0 := Lib.hid hb0
  unfold actV
  rw [hk] at hW0 ⊢
  generalize (if T.ofE a.dir a.name false = 0 then T.unlink a.dir a.name else T) = g0 at *
  generalize (T.ofE a.dir a.name false) = g1 at *
  clear hst bx h0 hb0 ok wf bd hN ao hk h
  go_enter Tryz.func10, Tryz.ntmps10
  go_wp2_with (go_at_call 20; (with_reducible refine C.out.mono ?_); rintro e w1 ⟨rfl, hl⟩; have HL := Lib.hid hl; clear hl)
  go_ret3
  exact ⟨rfl, doP_left HB0.out HL.out hS HO.out⟩
theorem do5 (hk : a.kind = 5) : Calls Tryz.prog 10 #[.pointer (some ⟨t, 0, none⟩), actV a] w fun e w' => e = .returned (.tuple #[.int .i64 (T.step a).2.1, .string (bs (T.step a).2.2.1), .int .i64 (T.step a).2.2.2]) ∧ DoP w t (T.step a).1 S w' := by
  have hst : T.step a = (if T.removeE a.dir a.name = 0 then T.remove a.dir a.name else T, 0, [], T.removeE a.dir a.name) := by unfold Tb.step; rw [if_neg (by omega)]; rw [if_neg (by omega)]; rw [if_neg (by omega)]; rw [if_neg (by omega)]; rw [if_pos hk]
  rw [hst]
  have ok := bd.ok wf hN
  obtain ⟨W0, hW0⟩ : ∃ W0, w.alloc (.cells #[.int .i64 a.kind, .int .i64 a.id, .int .i64 a.dir, .int .i64 a.at_, .int .i64 a.n, .string (bs a.name), .string (bs a.nm), .bool a.flag] 36) = W0 := ⟨_, rfl⟩
  have hb0 : Below w.heap.size w W0 := by rw [← hW0]; exact (Below.refl _ w).alloc (Nat.le_refl _) _
  have bx : BX W0 w.heap.size a := by rw [← hW0]; exact (MapKept.heap_alloc w _).1
  have h0 : TbAt W0 t T A mb := h.below hb0
  have x0 := bx.c0
  have x2 := bx.c2
  have x5 := bx.c5
  rw [hk] at x0
  have C := Lib.hid (removeDir_any h0 ok ao.dir a.name)
  have HO : Hid (∀ k, Own t mb A (if T.removeE a.dir a.name = 0 then T.remove a.dir a.name else T).nodes k → Own t mb A T.nodes k) := Lib.hid (fun k hk => by split at hk; exact own_upd (f := Nd.delName a.name) (fun _ => rfl) k (own_rmv k hk); exact hk)
  have HB0 := Lib.hid hb0
  unfold actV
  rw [hk] at hW0 ⊢
  generalize (if T.removeE a.dir a.name = 0 then T.remove a.dir a.name else T) = g0 at *
  generalize (T.removeE a.dir a.name) = g1 at *
  clear hst bx h0 hb0 ok wf bd hN ao hk h
  go_enter Tryz.func10, Tryz.ntmps10
  go_wp2_with (go_at_call 26; (with_reducible refine C.out.mono ?_); rintro e w1 ⟨rfl, hl⟩; have HL := Lib.hid hl; clear hl)
  go_ret3
  exact ⟨rfl, doP_left HB0.out HL.out hS HO.out⟩
theorem do6 (hk : a.kind = 6) : Calls Tryz.prog 10 #[.pointer (some ⟨t, 0, none⟩), actV a] w fun e w' => e = .returned (.tuple #[.int .i64 (T.step a).2.1, .string (bs (T.step a).2.2.1), .int .i64 (T.step a).2.2.2]) ∧ DoP w t (T.step a).1 S w' := by
  have hst : T.step a = (if T.renE a.dir a.name a.n a.nm = 0 then T.rename a.dir a.name a.n a.nm else T, 0, [], T.renE a.dir a.name a.n a.nm) := by unfold Tb.step; rw [if_neg (by omega)]; rw [if_neg (by omega)]; rw [if_neg (by omega)]; rw [if_neg (by omega)]; rw [if_neg (by omega)]; rw [if_pos hk]
  rw [hst]
  have ok := bd.ok wf hN
  obtain ⟨W0, hW0⟩ : ∃ W0, w.alloc (.cells #[.int .i64 a.kind, .int .i64 a.id, .int .i64 a.dir, .int .i64 a.at_, .int .i64 a.n, .string (bs a.name), .string (bs a.nm), .bool a.flag] 36) = W0 := ⟨_, rfl⟩
  have hb0 : Below w.heap.size w W0 := by rw [← hW0]; exact (Below.refl _ w).alloc (Nat.le_refl _) _
  have bx : BX W0 w.heap.size a := by rw [← hW0]; exact (MapKept.heap_alloc w _).1
  have h0 : TbAt W0 t T A mb := h.below hb0
  have x0 := bx.c0
  have x2 := bx.c2
  have x5 := bx.c5
  have x4 := bx.c4
  have x6 := bx.c6
  rw [hk] at x0
  have C := Lib.hid (rename_any h0 ok ao.dir a.name ao.n a.nm)
  have HO : Hid (∀ k, Own t mb A (if T.renE a.dir a.name a.n a.nm = 0 then T.rename a.dir a.name a.n a.nm else T).nodes k → Own t mb A T.nodes k) := Lib.hid (fun k hk => by split at hk; exact own_rename k hk; exact hk)
  have HB0 := Lib.hid hb0
  unfold actV
  rw [hk] at hW0 ⊢
  generalize (if T.renE a.dir a.name a.n a.nm = 0 then T.rename a.dir a.name a.n a.nm else T) = g0 at *
  generalize (T.renE a.dir a.name a.n a.nm) = g1 at *
  clear hst bx h0 hb0 ok wf bd hN ao hk h
  go_enter Tryz.func10, Tryz.ntmps10
  go_wp2_with (go_at_call 27; (with_reducible refine C.out.mono ?_); rintro e w1 ⟨rfl, hl⟩; have HL := Lib.hid hl; clear hl)
  go_ret3
  exact ⟨rfl, doP_left HB0.out HL.out hS HO.out⟩
theorem do7 (hk : a.kind = 7) : Calls Tryz.prog 10 #[.pointer (some ⟨t, 0, none⟩), actV a] w fun e w' => e = .returned (.tuple #[.int .i64 (T.step a).2.1, .string (bs (T.step a).2.2.1), .int .i64 (T.step a).2.2.2]) ∧ DoP w t (T.step a).1 S w' := by
  have hst : T.step a = (T, 0, if T.fileE a.id (min a.at_ a.n) = 0 then readL (T.nd a.id).data a.at_ a.n else [], T.fileE a.id (min a.at_ a.n)) := by unfold Tb.step; rw [if_neg (by omega)]; rw [if_neg (by omega)]; rw [if_neg (by omega)]; rw [if_neg (by omega)]; rw [if_neg (by omega)]; rw [if_neg (by omega)]; rw [if_pos hk]
  rw [hst]
  have ok := bd.ok wf hN
  obtain ⟨W0, hW0⟩ : ∃ W0, w.alloc (.cells #[.int .i64 a.kind, .int .i64 a.id, .int .i64 a.dir, .int .i64 a.at_, .int .i64 a.n, .string (bs a.name), .string (bs a.nm), .bool a.flag] 36) = W0 := ⟨_, rfl⟩
  have hb0 : Below w.heap.size w W0 := by rw [← hW0]; exact (Below.refl _ w).alloc (Nat.le_refl _) _
  have bx : BX W0 w.heap.size a := by rw [← hW0]; exact (MapKept.heap_alloc w _).1
  have h0 : TbAt W0 t T A mb := h.below hb0
  have x0 := bx.c0
  have x1 := bx.c1
  have x3 := bx.c3
  have x4 := bx.c4
  rw [hk] at x0
  have C : Hid (Calls Tryz.prog 21 #[.pointer (some ⟨t, 0, none⟩), .int .i64 a.id, .int .i64 a.at_, .int .i64 a.n] W0 fun e w' => e = .returned (.tuple #[.string (bs (if T.fileE a.id (min a.at_ a.n) = 0 then readL (T.nd a.id).data a.at_ a.n else [])), .int .i64 (T.fileE a.id (min a.at_ a.n))]) ∧ Below W0.heap.size W0 w') := by
    by_cases hE : T.fileE a.id (min a.at_ a.n) = 0
    · rw [if_pos hE, hE]; exact Lib.hid (read_ok h0 ok ao.id a.at_ a.n ao.at_ ao.n hE)
    · rw [if_neg hE]; exact Lib.hid ((read_no h0 ok ao.id a.at_ a.n ao.at_ ao.n hE).mono fun e w' ⟨h1, h2⟩ => ⟨h1, by rw [h2]; exact Below.refl _ _⟩)
  have HB0 := Lib.hid hb0
  have H := Lib.hid h
  unfold actV
  rw [hk] at hW0 ⊢
  generalize (if T.fileE a.id (min a.at_ a.n) = 0 then readL (T.nd a.id).data a.at_ a.n else []) = out at *
  generalize T.fileE a.id (min a.at_ a.n) = er at *
  clear hst bx h0 hb0 ok wf bd hN ao hk h
  go_enter Tryz.func10, Tryz.ntmps10
  go_wp2_with (go_at_call 21; (with_reducible refine C.out.mono ?_); rintro e w1 ⟨rfl, hb⟩; have HB := Lib.hid hb; clear hb)
  go_ret3
  exact ⟨rfl, doP_below H.out (HB0.out.trans (HB.out.mono HB0.out.size)) hS⟩
theorem do8 (hk : a.kind = 8) : Calls Tryz.prog 10 #[.pointer (some ⟨t, 0, none⟩), actV a] w fun e w' => e = .returned (.tuple #[.int .i64 (T.step a).2.1, .string (bs (T.step a).2.2.1), .int .i64 (T.step a).2.2.2]) ∧ DoP w t (T.step a).1 S w' := by
  have hst : T.step a = (if T.writeE a.id a.at_ a.nm = 0 then T.write a.id a.at_ a.nm else T, 0, [], T.writeE a.id a.at_ a.nm) := by unfold Tb.step; rw [if_neg (by omega)]; rw [if_neg (by omega)]; rw [if_neg (by omega)]; rw [if_neg (by omega)]; rw [if_neg (by omega)]; rw [if_neg (by omega)]; rw [if_neg (by omega)]; rw [if_pos hk]
  rw [hst]
  have ok := bd.ok wf hN
  obtain ⟨W0, hW0⟩ : ∃ W0, w.alloc (.cells #[.int .i64 a.kind, .int .i64 a.id, .int .i64 a.dir, .int .i64 a.at_, .int .i64 a.n, .string (bs a.name), .string (bs a.nm), .bool a.flag] 36) = W0 := ⟨_, rfl⟩
  have hb0 : Below w.heap.size w W0 := by rw [← hW0]; exact (Below.refl _ w).alloc (Nat.le_refl _) _
  have bx : BX W0 w.heap.size a := by rw [← hW0]; exact (MapKept.heap_alloc w _).1
  have h0 : TbAt W0 t T A mb := h.below hb0
  have x0 := bx.c0
  have x1 := bx.c1
  have x3 := bx.c3
  have x6 := bx.c6
  rw [hk] at x0
  have C := Lib.hid (write_any h0 ok ao.id a.at_ ao.at_ a.nm ao.nm)
  have HO : Hid (∀ k, Own t mb A (if T.writeE a.id a.at_ a.nm = 0 then T.write a.id a.at_ a.nm else T).nodes k → Own t mb A T.nodes k) := Lib.hid (fun k hk => by split at hk; exact own_write k hk; exact hk)
  have HB0 := Lib.hid hb0
  unfold actV
  rw [hk] at hW0 ⊢
  generalize (if T.writeE a.id a.at_ a.nm = 0 then T.write a.id a.at_ a.nm else T) = g0 at *
  generalize (T.writeE a.id a.at_ a.nm) = g1 at *
  clear hst bx h0 hb0 ok wf bd hN ao hk h
  go_enter Tryz.func10, Tryz.ntmps10
  go_wp2_with (go_at_call 18; (with_reducible refine C.out.mono ?_); rintro e w1 ⟨rfl, hl⟩; have HL := Lib.hid hl; clear hl)
  go_ret3
  exact ⟨rfl, doP_left HB0.out HL.out hS HO.out⟩
theorem do9 (hk : a.kind = 9) : Calls Tryz.prog 10 #[.pointer (some ⟨t, 0, none⟩), actV a] w fun e w' => e = .returned (.tuple #[.int .i64 (T.step a).2.1, .string (bs (T.step a).2.2.1), .int .i64 (T.step a).2.2.2]) ∧ DoP w t (T.step a).1 S w' := by
  have hst : T.step a = (if T.truncE a.id a.n = 0 then T.trunc a.id a.n else T, 0, [], T.truncE a.id a.n) := by unfold Tb.step; rw [if_neg (by omega)]; rw [if_neg (by omega)]; rw [if_neg (by omega)]; rw [if_neg (by omega)]; rw [if_neg (by omega)]; rw [if_neg (by omega)]; rw [if_neg (by omega)]; rw [if_neg (by omega)]; rw [if_pos hk]
  rw [hst]
  have ok := bd.ok wf hN
  obtain ⟨W0, hW0⟩ : ∃ W0, w.alloc (.cells #[.int .i64 a.kind, .int .i64 a.id, .int .i64 a.dir, .int .i64 a.at_, .int .i64 a.n, .string (bs a.name), .string (bs a.nm), .bool a.flag] 36) = W0 := ⟨_, rfl⟩
  have hb0 : Below w.heap.size w W0 := by rw [← hW0]; exact (Below.refl _ w).alloc (Nat.le_refl _) _
  have bx : BX W0 w.heap.size a := by rw [← hW0]; exact (MapKept.heap_alloc w _).1
  have h0 : TbAt W0 t T A mb := h.below hb0
  have x0 := bx.c0
  have x1 := bx.c1
  have x4 := bx.c4
  rw [hk] at x0
  have C := Lib.hid (trunc_any h0 ok ao.id a.n ao.n)
  have HO : Hid (∀ k, Own t mb A (if T.truncE a.id a.n = 0 then T.trunc a.id a.n else T).nodes k → Own t mb A T.nodes k) := Lib.hid (fun k hk => by split at hk; exact own_upd (f := Nd.setData _) (fun _ => rfl) k hk; exact hk)
  have HB0 := Lib.hid hb0
  unfold actV
  rw [hk] at hW0 ⊢
  generalize (if T.truncE a.id a.n = 0 then T.trunc a.id a.n else T) = g0 at *
  generalize (T.truncE a.id a.n) = g1 at *
  clear hst bx h0 hb0 ok wf bd hN ao hk h
  go_enter Tryz.func10, Tryz.ntmps10
  go_wp2_with (go_at_call 28; (with_reducible refine C.out.mono ?_); rintro e w1 ⟨rfl, hl⟩; have HL := Lib.hid hl; clear hl)
  go_ret3
  exact ⟨rfl, doP_left HB0.out HL.out hS HO.out⟩
theorem do10 (hk : a.kind = 10) : Calls Tryz.prog 10 #[.pointer (some ⟨t, 0, none⟩), actV a] w fun e w' => e = .returned (.tuple #[.int .i64 (T.step a).2.1, .string (bs (T.step a).2.2.1), .int .i64 (T.step a).2.2.2]) ∧ DoP w t (T.step a).1 S w' := by
  have hst : T.step a = (if T.holdE a.id = 0 then T.upd a.id (Nd.addHolds 1) else T, 0, [], T.holdE a.id) := by unfold Tb.step; rw [if_neg (by omega)]; rw [if_neg (by omega)]; rw [if_neg (by omega)]; rw [if_neg (by omega)]; rw [if_neg (by omega)]; rw [if_neg (by omega)]; rw [if_neg (by omega)]; rw [if_neg (by omega)]; rw [if_neg (by omega)]; rw [if_pos hk]
  rw [hst]
  have ok := bd.ok wf hN
  obtain ⟨W0, hW0⟩ : ∃ W0, w.alloc (.cells #[.int .i64 a.kind, .int .i64 a.id, .int .i64 a.dir, .int .i64 a.at_, .int .i64 a.n, .string (bs a.name), .string (bs a.nm), .bool a.flag] 36) = W0 := ⟨_, rfl⟩
  have hb0 : Below w.heap.size w W0 := by rw [← hW0]; exact (Below.refl _ w).alloc (Nat.le_refl _) _
  have bx : BX W0 w.heap.size a := by rw [← hW0]; exact (MapKept.heap_alloc w _).1
  have h0 : TbAt W0 t T A mb := h.below hb0
  have x0 := bx.c0
  have x1 := bx.c1
  rw [hk] at x0
  have C := Lib.hid (hold_any h0 ok ao.id)
  have HO : Hid (∀ k, Own t mb A (if T.holdE a.id = 0 then T.upd a.id (Nd.addHolds 1) else T).nodes k → Own t mb A T.nodes k) := Lib.hid (fun k hk => by split at hk; exact own_upd (f := Nd.addHolds 1) (fun _ => rfl) k hk; exact hk)
  have HB0 := Lib.hid hb0
  unfold actV
  rw [hk] at hW0 ⊢
  generalize (if T.holdE a.id = 0 then T.upd a.id (Nd.addHolds 1) else T) = g0 at *
  generalize (T.holdE a.id) = g1 at *
  clear hst bx h0 hb0 ok wf bd hN ao hk h
  go_enter Tryz.func10, Tryz.ntmps10
  go_wp2_with (go_at_call 29; (with_reducible refine C.out.mono ?_); rintro e w1 ⟨rfl, hl⟩; have HL := Lib.hid hl; clear hl)
  go_ret3
  exact ⟨rfl, doP_left HB0.out HL.out hS HO.out⟩
theorem do11 (hk : a.kind = 11) : Calls Tryz.prog 10 #[.pointer (some ⟨t, 0, none⟩), actV a] w fun e w' => e = .returned (.tuple #[.int .i64 (T.step a).2.1, .string (bs (T.step a).2.2.1), .int .i64 (T.step a).2.2.2]) ∧ DoP w t (T.step a).1 S w' := by
  have hst : T.step a = (if T.dropE a.id = 0 then T.drop a.id else T, 0, [], T.dropE a.id) := by unfold Tb.step; rw [if_neg (by omega)]; rw [if_neg (by omega)]; rw [if_neg (by omega)]; rw [if_neg (by omega)]; rw [if_neg (by omega)]; rw [if_neg (by omega)]; rw [if_neg (by omega)]; rw [if_neg (by omega)]; rw [if_neg (by omega)]; rw [if_neg (by omega)]; rw [if_pos hk]
  rw [hst]
  have ok := bd.ok wf hN
  obtain ⟨W0, hW0⟩ : ∃ W0, w.alloc (.cells #[.int .i64 a.kind, .int .i64 a.id, .int .i64 a.dir, .int .i64 a.at_, .int .i64 a.n, .string (bs a.name), .string (bs a.nm), .bool a.flag] 36) = W0 := ⟨_, rfl⟩
  have hb0 : Below w.heap.size w W0 := by rw [← hW0]; exact (Below.refl _ w).alloc (Nat.le_refl _) _
  have bx : BX W0 w.heap.size a := by rw [← hW0]; exact (MapKept.heap_alloc w _).1
  have h0 : TbAt W0 t T A mb := h.below hb0
  have x0 := bx.c0
  have x1 := bx.c1
  rw [hk] at x0
  have C := Lib.hid (drop_any h0 ok ao.id)
  have HO : Hid (∀ k, Own t mb A (if T.dropE a.id = 0 then T.drop a.id else T).nodes k → Own t mb A T.nodes k) := Lib.hid (fun k hk => by split at hk; exact own_upd (f := Nd.addHolds (-1)) (fun _ => rfl) k (own_rel k hk); exact hk)
  have HB0 := Lib.hid hb0
  unfold actV
  rw [hk] at hW0 ⊢
  generalize (if T.dropE a.id = 0 then T.drop a.id else T) = g0 at *
  generalize (T.dropE a.id) = g1 at *
  clear hst bx h0 hb0 ok wf bd hN ao hk h
  go_enter Tryz.func10, Tryz.ntmps10
  go_wp2_with (go_at_call 30; (with_reducible refine C.out.mono ?_); rintro e w1 ⟨rfl, hl⟩; have HL := Lib.hid hl; clear hl)
  go_ret3
  exact ⟨rfl, doP_left HB0.out HL.out hS HO.out⟩
end
end Go.Proofs.YtagdhghjcibfbaaGreat

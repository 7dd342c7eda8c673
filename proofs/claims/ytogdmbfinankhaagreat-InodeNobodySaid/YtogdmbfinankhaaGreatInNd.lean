/- Layer 8: the law's do, on a table that nobody made. -/
import Derived.Test.YtogdmbfinankhaaGreatInNb
import Derived.Test.YtogdmbfinankhaaGreatInX
import Derived.LoopTactic
namespace Go.Proofs.YtogdmbfinankhaaGreat
open Go.RowKit
set_option linter.unusedVariables false
set_option linter.unusedSectionVars false
set_option maxRecDepth 100000

section
variable {w : World} {p : Option Addr} (h : Nob w p) (hlt : ∀ a, p = some a → a.block < w.heap.size) (a : AcT)
include h hlt
theorem nbdo1 (hk : a.kind = 1) : Calls Tryz.prog 11 #[.pointer p, actV a] w fun e w' => e = .returned (.tuple #[.int .i64 0, .string ⟨#[]⟩, .int .i64 1]) ∧ Below w.heap.size w w' := by
  obtain ⟨W0, hW0⟩ : ∃ W0, w.alloc (.cells #[.int .i64 a.kind, .int .i64 a.id, .int .i64 a.dir, .int .i64 a.at_, .int .i64 a.n, .string (bs a.name), .string (bs a.nm), .bool a.flag] 36) = W0 := ⟨_, rfl⟩
  have hb0 : Below w.heap.size w W0 := by rw [← hW0]; exact (Below.refl _ w).alloc (Nat.le_refl _) _
  have bx : BX W0 w.heap.size a := by rw [← hW0]; exact (MapKept.heap_alloc w _).1
  have h0 : Nob W0 p := h.below hb0 hlt
  have x0 := bx.c0
  have x2 := bx.c2
  have x5 := bx.c5
  have x7 := bx.c7
  have C := Lib.hid (nb_Make h0 a.dir (bs a.name) a.flag)
  have HB0 := Lib.hid hb0
  unfold actV
  rw [hk] at x0
  rw [hk] at hW0 ⊢
  clear bx h0 hb0 hk h hlt
  go_enter Tryz.func11, Tryz.ntmps11
  go_wp2_with (go_at_call 18; (with_reducible refine C.out.mono ?_); rintro e w1 ⟨rfl, rfl⟩)
  go_ret3
  exact ⟨rfl, HB0.out⟩
theorem nbdo2 (hk : a.kind = 2) : Calls Tryz.prog 11 #[.pointer p, actV a] w fun e w' => e = .returned (.tuple #[.int .i64 0, .string ⟨#[]⟩, .int .i64 1]) ∧ Below w.heap.size w w' := by
  obtain ⟨W0, hW0⟩ : ∃ W0, w.alloc (.cells #[.int .i64 a.kind, .int .i64 a.id, .int .i64 a.dir, .int .i64 a.at_, .int .i64 a.n, .string (bs a.name), .string (bs a.nm), .bool a.flag] 36) = W0 := ⟨_, rfl⟩
  have hb0 : Below w.heap.size w W0 := by rw [← hW0]; exact (Below.refl _ w).alloc (Nat.le_refl _) _
  have bx : BX W0 w.heap.size a := by rw [← hW0]; exact (MapKept.heap_alloc w _).1
  have h0 : Nob W0 p := h.below hb0 hlt
  have x0 := bx.c0
  have x2 := bx.c2
  have x5 := bx.c5
  have C := Lib.hid (nb_Find h0 a.dir (bs a.name))
  have HB0 := Lib.hid hb0
  unfold actV
  rw [hk] at x0
  rw [hk] at hW0 ⊢
  clear bx h0 hb0 hk h hlt
  go_enter Tryz.func11, Tryz.ntmps11
  go_wp2_with (go_at_call 26; (with_reducible refine C.out.mono ?_); rintro e w1 ⟨rfl, rfl⟩)
  go_ret3
  exact ⟨rfl, HB0.out⟩
theorem nbdo3 (hk : a.kind = 3) : Calls Tryz.prog 11 #[.pointer p, actV a] w fun e w' => e = .returned (.tuple #[.int .i64 0, .string ⟨#[]⟩, .int .i64 1]) ∧ Below w.heap.size w w' := by
  obtain ⟨W0, hW0⟩ : ∃ W0, w.alloc (.cells #[.int .i64 a.kind, .int .i64 a.id, .int .i64 a.dir, .int .i64 a.at_, .int .i64 a.n, .string (bs a.name), .string (bs a.nm), .bool a.flag] 36) = W0 := ⟨_, rfl⟩
  have hb0 : Below w.heap.size w W0 := by rw [← hW0]; exact (Below.refl _ w).alloc (Nat.le_refl _) _
  have bx : BX W0 w.heap.size a := by rw [← hW0]; exact (MapKept.heap_alloc w _).1
  have h0 : Nob W0 p := h.below hb0 hlt
  have x0 := bx.c0
  have x1 := bx.c1
  have x2 := bx.c2
  have x5 := bx.c5
  have C := Lib.hid (nb_Link h0 a.id a.dir (bs a.name))
  have HB0 := Lib.hid hb0
  unfold actV
  rw [hk] at x0
  rw [hk] at hW0 ⊢
  clear bx h0 hb0 hk h hlt
  go_enter Tryz.func11, Tryz.ntmps11
  go_wp2_with (go_at_call 20; (with_reducible refine C.out.mono ?_); rintro e w1 ⟨rfl, rfl⟩)
  go_ret3
  exact ⟨rfl, HB0.out⟩
theorem nbdo4 (hk : a.kind = 4) : Calls Tryz.prog 11 #[.pointer p, actV a] w fun e w' => e = .returned (.tuple #[.int .i64 0, .string ⟨#[]⟩, .int .i64 1]) ∧ Below w.heap.size w w' := by
  obtain ⟨W0, hW0⟩ : ∃ W0, w.alloc (.cells #[.int .i64 a.kind, .int .i64 a.id, .int .i64 a.dir, .int .i64 a.at_, .int .i64 a.n, .string (bs a.name), .string (bs a.nm), .bool a.flag] 36) = W0 := ⟨_, rfl⟩
  have hb0 : Below w.heap.size w W0 := by rw [← hW0]; exact (Below.refl _ w).alloc (Nat.le_refl _) _
  have bx : BX W0 w.heap.size a := by rw [← hW0]; exact (MapKept.heap_alloc w _).1
  have h0 : Nob W0 p := h.below hb0 hlt
  have x0 := bx.c0
  have x2 := bx.c2
  have x5 := bx.c5
  have C := Lib.hid (nb_Unlink h0 a.dir (bs a.name))
  have HB0 := Lib.hid hb0
  unfold actV
  rw [hk] at x0
  rw [hk] at hW0 ⊢
  clear bx h0 hb0 hk h hlt
  go_enter Tryz.func11, Tryz.ntmps11
  go_wp2_with (go_at_call 21; (with_reducible refine C.out.mono ?_); rintro e w1 ⟨rfl, rfl⟩)
  go_ret3
  exact ⟨rfl, HB0.out⟩
theorem nbdo5 (hk : a.kind = 5) : Calls Tryz.prog 11 #[.pointer p, actV a] w fun e w' => e = .returned (.tuple #[.int .i64 0, .string ⟨#[]⟩, .int .i64 1]) ∧ Below w.heap.size w w' := by
  obtain ⟨W0, hW0⟩ : ∃ W0, w.alloc (.cells #[.int .i64 a.kind, .int .i64 a.id, .int .i64 a.dir, .int .i64 a.at_, .int .i64 a.n, .string (bs a.name), .string (bs a.nm), .bool a.flag] 36) = W0 := ⟨_, rfl⟩
  have hb0 : Below w.heap.size w W0 := by rw [← hW0]; exact (Below.refl _ w).alloc (Nat.le_refl _) _
  have bx : BX W0 w.heap.size a := by rw [← hW0]; exact (MapKept.heap_alloc w _).1
  have h0 : Nob W0 p := h.below hb0 hlt
  have x0 := bx.c0
  have x2 := bx.c2
  have x5 := bx.c5
  have C := Lib.hid (nb_Remove h0 a.dir (bs a.name))
  have HB0 := Lib.hid hb0
  unfold actV
  rw [hk] at x0
  rw [hk] at hW0 ⊢
  clear bx h0 hb0 hk h hlt
  go_enter Tryz.func11, Tryz.ntmps11
  go_wp2_with (go_at_call 27; (with_reducible refine C.out.mono ?_); rintro e w1 ⟨rfl, rfl⟩)
  go_ret3
  exact ⟨rfl, HB0.out⟩
theorem nbdo6 (hk : a.kind = 6) : Calls Tryz.prog 11 #[.pointer p, actV a] w fun e w' => e = .returned (.tuple #[.int .i64 0, .string ⟨#[]⟩, .int .i64 1]) ∧ Below w.heap.size w w' := by
  obtain ⟨W0, hW0⟩ : ∃ W0, w.alloc (.cells #[.int .i64 a.kind, .int .i64 a.id, .int .i64 a.dir, .int .i64 a.at_, .int .i64 a.n, .string (bs a.name), .string (bs a.nm), .bool a.flag] 36) = W0 := ⟨_, rfl⟩
  have hb0 : Below w.heap.size w W0 := by rw [← hW0]; exact (Below.refl _ w).alloc (Nat.le_refl _) _
  have bx : BX W0 w.heap.size a := by rw [← hW0]; exact (MapKept.heap_alloc w _).1
  have h0 : Nob W0 p := h.below hb0 hlt
  have x0 := bx.c0
  have x2 := bx.c2
  have x5 := bx.c5
  have x4 := bx.c4
  have x6 := bx.c6
  have C := Lib.hid (nb_Rename h0 a.dir (bs a.name) a.n (bs a.nm))
  have HB0 := Lib.hid hb0
  unfold actV
  rw [hk] at x0
  rw [hk] at hW0 ⊢
  clear bx h0 hb0 hk h hlt
  go_enter Tryz.func11, Tryz.ntmps11
  go_wp2_with (go_at_call 28; (with_reducible refine C.out.mono ?_); rintro e w1 ⟨rfl, rfl⟩)
  go_ret3
  exact ⟨rfl, HB0.out⟩
theorem nbdo7 (hk : a.kind = 7) : Calls Tryz.prog 11 #[.pointer p, actV a] w fun e w' => e = .returned (.tuple #[.int .i64 0, .string ⟨#[]⟩, .int .i64 1]) ∧ Below w.heap.size w w' := by
  obtain ⟨W0, hW0⟩ : ∃ W0, w.alloc (.cells #[.int .i64 a.kind, .int .i64 a.id, .int .i64 a.dir, .int .i64 a.at_, .int .i64 a.n, .string (bs a.name), .string (bs a.nm), .bool a.flag] 36) = W0 := ⟨_, rfl⟩
  have hb0 : Below w.heap.size w W0 := by rw [← hW0]; exact (Below.refl _ w).alloc (Nat.le_refl _) _
  have bx : BX W0 w.heap.size a := by rw [← hW0]; exact (MapKept.heap_alloc w _).1
  have h0 : Nob W0 p := h.below hb0 hlt
  have x0 := bx.c0
  have x1 := bx.c1
  have x3 := bx.c3
  have x4 := bx.c4
  have C := Lib.hid (nb_Read h0 a.id a.at_ a.n)
  have HB0 := Lib.hid hb0
  unfold actV
  rw [hk] at x0
  rw [hk] at hW0 ⊢
  clear bx h0 hb0 hk h hlt
  go_enter Tryz.func11, Tryz.ntmps11
  go_wp2_with (go_at_call 22; (with_reducible refine C.out.mono ?_); rintro e w1 ⟨rfl, rfl⟩)
  go_ret3
  exact ⟨rfl, HB0.out⟩
theorem nbdo8 (hk : a.kind = 8) : Calls Tryz.prog 11 #[.pointer p, actV a] w fun e w' => e = .returned (.tuple #[.int .i64 0, .string ⟨#[]⟩, .int .i64 1]) ∧ Below w.heap.size w w' := by
  obtain ⟨W0, hW0⟩ : ∃ W0, w.alloc (.cells #[.int .i64 a.kind, .int .i64 a.id, .int .i64 a.dir, .int .i64 a.at_, .int .i64 a.n, .string (bs a.name), .string (bs a.nm), .bool a.flag] 36) = W0 := ⟨_, rfl⟩
  have hb0 : Below w.heap.size w W0 := by rw [← hW0]; exact (Below.refl _ w).alloc (Nat.le_refl _) _
  have bx : BX W0 w.heap.size a := by rw [← hW0]; exact (MapKept.heap_alloc w _).1
  have h0 : Nob W0 p := h.below hb0 hlt
  have x0 := bx.c0
  have x1 := bx.c1
  have x3 := bx.c3
  have x6 := bx.c6
  have C := Lib.hid (nb_Write h0 a.id a.at_ (bs a.nm))
  have HB0 := Lib.hid hb0
  unfold actV
  rw [hk] at x0
  rw [hk] at hW0 ⊢
  clear bx h0 hb0 hk h hlt
  go_enter Tryz.func11, Tryz.ntmps11
  go_wp2_with (go_at_call 19; (with_reducible refine C.out.mono ?_); rintro e w1 ⟨rfl, rfl⟩)
  go_ret3
  exact ⟨rfl, HB0.out⟩
theorem nbdo9 (hk : a.kind = 9) : Calls Tryz.prog 11 #[.pointer p, actV a] w fun e w' => e = .returned (.tuple #[.int .i64 0, .string ⟨#[]⟩, .int .i64 1]) ∧ Below w.heap.size w w' := by
  obtain ⟨W0, hW0⟩ : ∃ W0, w.alloc (.cells #[.int .i64 a.kind, .int .i64 a.id, .int .i64 a.dir, .int .i64 a.at_, .int .i64 a.n, .string (bs a.name), .string (bs a.nm), .bool a.flag] 36) = W0 := ⟨_, rfl⟩
  have hb0 : Below w.heap.size w W0 := by rw [← hW0]; exact (Below.refl _ w).alloc (Nat.le_refl _) _
  have bx : BX W0 w.heap.size a := by rw [← hW0]; exact (MapKept.heap_alloc w _).1
  have h0 : Nob W0 p := h.below hb0 hlt
  have x0 := bx.c0
  have x1 := bx.c1
  have x4 := bx.c4
  have C := Lib.hid (nb_Truncate h0 a.id a.n)
  have HB0 := Lib.hid hb0
  unfold actV
  rw [hk] at x0
  rw [hk] at hW0 ⊢
  clear bx h0 hb0 hk h hlt
  go_enter Tryz.func11, Tryz.ntmps11
  go_wp2_with (go_at_call 29; (with_reducible refine C.out.mono ?_); rintro e w1 ⟨rfl, rfl⟩)
  go_ret3
  exact ⟨rfl, HB0.out⟩
theorem nbdo10 (hk : a.kind = 10) : Calls Tryz.prog 11 #[.pointer p, actV a] w fun e w' => e = .returned (.tuple #[.int .i64 0, .string ⟨#[]⟩, .int .i64 1]) ∧ Below w.heap.size w w' := by
  obtain ⟨W0, hW0⟩ : ∃ W0, w.alloc (.cells #[.int .i64 a.kind, .int .i64 a.id, .int .i64 a.dir, .int .i64 a.at_, .int .i64 a.n, .string (bs a.name), .string (bs a.nm), .bool a.flag] 36) = W0 := ⟨_, rfl⟩
  have hb0 : Below w.heap.size w W0 := by rw [← hW0]; exact (Below.refl _ w).alloc (Nat.le_refl _) _
  have bx : BX W0 w.heap.size a := by rw [← hW0]; exact (MapKept.heap_alloc w _).1
  have h0 : Nob W0 p := h.below hb0 hlt
  have x0 := bx.c0
  have x1 := bx.c1
  have C := Lib.hid (nb_Hold h0 a.id)
  have HB0 := Lib.hid hb0
  unfold actV
  rw [hk] at x0
  rw [hk] at hW0 ⊢
  clear bx h0 hb0 hk h hlt
  go_enter Tryz.func11, Tryz.ntmps11
  go_wp2_with (go_at_call 30; (with_reducible refine C.out.mono ?_); rintro e w1 ⟨rfl, rfl⟩)
  go_ret3
  exact ⟨rfl, HB0.out⟩
theorem nbdo11 (hk : a.kind = 11) : Calls Tryz.prog 11 #[.pointer p, actV a] w fun e w' => e = .returned (.tuple #[.int .i64 0, .string ⟨#[]⟩, .int .i64 1]) ∧ Below w.heap.size w w' := by
  obtain ⟨W0, hW0⟩ : ∃ W0, w.alloc (.cells #[.int .i64 a.kind, .int .i64 a.id, .int .i64 a.dir, .int .i64 a.at_, .int .i64 a.n, .string (bs a.name), .string (bs a.nm), .bool a.flag] 36) = W0 := ⟨_, rfl⟩
  have hb0 : Below w.heap.size w W0 := by rw [← hW0]; exact (Below.refl _ w).alloc (Nat.le_refl _) _
  have bx : BX W0 w.heap.size a := by rw [← hW0]; exact (MapKept.heap_alloc w _).1
  have h0 : Nob W0 p := h.below hb0 hlt
  have x0 := bx.c0
  have x1 := bx.c1
  have C := Lib.hid (nb_Drop h0 a.id)
  have HB0 := Lib.hid hb0
  unfold actV
  rw [hk] at x0
  rw [hk] at hW0 ⊢
  clear bx h0 hb0 hk h hlt
  go_enter Tryz.func11, Tryz.ntmps11
  go_wp2_with (go_at_call 31; (with_reducible refine C.out.mono ?_); rintro e w1 ⟨rfl, rfl⟩)
  go_ret3
  exact ⟨rfl, HB0.out⟩
theorem nbdo12 (hk : ∀ i : Int, 1 ≤ i → i ≤ 11 → a.kind ≠ i) : Calls Tryz.prog 11 #[.pointer p, actV a] w fun e w' => e = .returned (.tuple #[.int .i64 0, .string ⟨#[]⟩, .int .i64 1]) ∧ Below w.heap.size w w' := by
  obtain ⟨W0, hW0⟩ : ∃ W0, w.alloc (.cells #[.int .i64 a.kind, .int .i64 a.id, .int .i64 a.dir, .int .i64 a.at_, .int .i64 a.n, .string (bs a.name), .string (bs a.nm), .bool a.flag] 36) = W0 := ⟨_, rfl⟩
  have hb0 : Below w.heap.size w W0 := by rw [← hW0]; exact (Below.refl _ w).alloc (Nat.le_refl _) _
  have bx : BX W0 w.heap.size a := by rw [← hW0]; exact (MapKept.heap_alloc w _).1
  have h0 : Nob W0 p := h.below hb0 hlt
  have x0 := bx.c0
  have x2 := bx.c2
  have C := Lib.hid (nb_List h0 a.dir)
  have HB0 := Lib.hid hb0
  unfold actV
  have kf : ∀ i : Int, 1 ≤ i → i ≤ 11 → (a.kind == i) = false := fun i h1 h2 => by simpa using hk i h1 h2
  have k1 := kf 1 (by omega) (by omega); have k2 := kf 2 (by omega) (by omega); have k3 := kf 3 (by omega) (by omega); have k4 := kf 4 (by omega) (by omega); have k5 := kf 5 (by omega) (by omega); have k6 := kf 6 (by omega) (by omega)
  have k7 := kf 7 (by omega) (by omega); have k8 := kf 8 (by omega) (by omega); have k9 := kf 9 (by omega) (by omega); have k10 := kf 10 (by omega) (by omega); have k11 := kf 11 (by omega) (by omega)
  clear bx h0 hb0 hk h hlt kf
  go_enter Tryz.func11, Tryz.ntmps11
  go_wp2_with (go_at_call 23; (with_reducible refine C.out.mono ?_); rintro e w1 ⟨rfl, rfl⟩)
  go_loop [15, 16] (fun s i => s = .string ⟨#[]⟩ ∧ i = .int .i64 0) (fun _ _ => 0)
  case atStart => exact ⟨rfl, rfl⟩
  case round =>
    obtain ⟨rfl, rfl⟩ := hrel
    go_wp2_with fail
    go_ret3
    exact ⟨rfl, HB0.out⟩
theorem nbdo_any : Calls Tryz.prog 11 #[.pointer p, actV a] w fun e w' => e = .returned (.tuple #[.int .i64 0, .string ⟨#[]⟩, .int .i64 1]) ∧ Below w.heap.size w w' := by
  by_cases k1 : a.kind = 1; · exact nbdo1 h hlt a k1
  by_cases k2 : a.kind = 2; · exact nbdo2 h hlt a k2
  by_cases k3 : a.kind = 3; · exact nbdo3 h hlt a k3
  by_cases k4 : a.kind = 4; · exact nbdo4 h hlt a k4
  by_cases k5 : a.kind = 5; · exact nbdo5 h hlt a k5
  by_cases k6 : a.kind = 6; · exact nbdo6 h hlt a k6
  by_cases k7 : a.kind = 7; · exact nbdo7 h hlt a k7
  by_cases k8 : a.kind = 8; · exact nbdo8 h hlt a k8
  by_cases k9 : a.kind = 9; · exact nbdo9 h hlt a k9
  by_cases k10 : a.kind = 10; · exact nbdo10 h hlt a k10
  by_cases k11 : a.kind = 11; · exact nbdo11 h hlt a k11
  exact nbdo12 h hlt a (fun i h1 h2 => by
    have : i = 1 ∨ i = 2 ∨ i = 3 ∨ i = 4 ∨ i = 5 ∨ i = 6 ∨ i = 7 ∨ i = 8 ∨ i = 9 ∨ i = 10 ∨ i = 11 := by omega
    rcases this with rfl | rfl | rfl | rfl | rfl | rfl | rfl | rfl | rfl | rfl | rfl <;> assumption)
end
end Go.Proofs.YtogdmbfinankhaaGreat

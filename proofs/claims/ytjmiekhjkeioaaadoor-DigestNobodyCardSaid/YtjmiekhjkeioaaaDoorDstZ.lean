/- Contracts of package digest's Lazy: New, Made, Bytes. -/
import Derived.Test.YtjmiekhjkeioaaaDoorDstA
import Derived.Test.YtjmiekhjkeioaaaDoorOnce
import Derived.Laws.NewBlocks
namespace Go.Proofs.YtjmiekhjkeioaaaDoor
open Go.RowKit
set_option linter.unusedVariables false

/-- The cells of a Lazy: its bytes, its once (done, the lock, its sleepers), its text, how often it was made. -/
def lzV (s : ByteArray) (d m : Int) (t : ByteArray) (n : Int) (j : Nat) : Value :=
  if j = 0 then .string s else if j = 1 then .int .u32 d else if j = 2 then .int .i32 m else if j = 3 then .int .u32 0 else if j = 4 then .string t else .int .i64 n
/-- A Lazy in the midst of what is done once. -/
def LzIs (w : World) (b : Nat) (s : ByteArray) (d m : Int) (t : ByteArray) (n : Int) : Prop := w.rowIs b 48 6 (lzV s d m t n)
/-- A Lazy that has been asked, or not. -/
def LzOf (w : World) (b : Nat) (s : ByteArray) (asked : Bool) : Prop := if asked then LzIs w b s 1 0 (digS s.data.toList) 1 else LzIs w b s 0 0 ⟨#[]⟩ 0

theorem LzIs.c0 {w : World} {b : Nat} {s t : ByteArray} {d m n : Int} (h : LzIs w b s d m t n) : w.cell? ⟨b, 0, none⟩ = some (.string s) := World.rowIs.cell h (i := 0) (by omega)
theorem LzIs.c1 {w : World} {b : Nat} {s t : ByteArray} {d m n : Int} (h : LzIs w b s d m t n) : w.cell? ⟨b, 1, none⟩ = some (.int .u32 d) := World.rowIs.cell h (i := 1) (by omega)
theorem LzIs.c2 {w : World} {b : Nat} {s t : ByteArray} {d m n : Int} (h : LzIs w b s d m t n) : w.cell? ⟨b, 2, none⟩ = some (.int .i32 m) := World.rowIs.cell h (i := 2) (by omega)
theorem LzIs.c4 {w : World} {b : Nat} {s t : ByteArray} {d m n : Int} (h : LzIs w b s d m t n) : w.cell? ⟨b, 4, none⟩ = some (.string t) := World.rowIs.cell h (i := 4) (by omega)
theorem LzIs.c5 {w : World} {b : Nat} {s t : ByteArray} {d m n : Int} (h : LzIs w b s d m t n) : w.cell? ⟨b, 5, none⟩ = some (.int .i64 n) := World.rowIs.cell h (i := 5) (by omega)
theorem LzIs.fr {w : World} {b : Nat} {s t : ByteArray} {d m n : Int} (h : LzIs w b s d m t n) (j : Nat) : w.frozen? ⟨b, j, none⟩ = false := World.rowIs.frozen h j
theorem LzIs.of_block {w w' : World} {b : Nat} {s t : ByteArray} {d m n : Int} (h : LzIs w b s d m t n) (e : w'.heap[b]? = w.heap[b]?) : LzIs w' b s d m t n := World.rowIs.of_block h e
theorem LzIs.put {w : World} {b : Nat} {s t : ByteArray} {d m n : Int} (h : LzIs w b s d m t n) (i : Nat) (v : Value) {d' m' n' : Int} {t' : ByteArray}
    (e : ∀ j, j < 6 → (if j = i then v else lzV s d m t n j) = lzV s d' m' t' n' j) : LzIs (w.setCell ⟨b, i, none⟩ v) b s d' m' t' n' := (World.rowIs.set h i v).congr e
theorem lz_cases (P : Nat → Prop) (h0 : P 0) (h1 : P 1) (h2 : P 2) (h3 : P 3) (h4 : P 4) (h5 : P 5) : ∀ j, j < 6 → P j
  | 0, _ => h0 | 1, _ => h1 | 2, _ => h2 | 3, _ => h3 | 4, _ => h4 | 5, _ => h5
  | j + 6, h => absurd h (by omega)
theorem LzIs.lock {w : World} {b : Nat} {s t : ByteArray} {d m n : Int} (h : LzIs w b s d m t n) (x : Int) : LzIs (w.setCell ⟨b, 2, none⟩ (.int .i32 x)) b s d x t n :=
  h.put 2 _ (lz_cases _ rfl rfl rfl rfl rfl rfl)
theorem LzIs.mark {w : World} {b : Nat} {s t : ByteArray} {d m n : Int} (h : LzIs w b s d m t n) (x : Int) : LzIs (w.setCell ⟨b, 1, none⟩ (.int .u32 x)) b s x m t n :=
  h.put 1 _ (lz_cases _ rfl rfl rfl rfl rfl rfl)
theorem LzIs.text {w : World} {b : Nat} {s t : ByteArray} {d m n : Int} (h : LzIs w b s d m t n) (x : ByteArray) : LzIs (w.setCell ⟨b, 4, none⟩ (.string x)) b s d m x n :=
  h.put 4 _ (lz_cases _ rfl rfl rfl rfl rfl rfl)
theorem LzIs.made {w : World} {b : Nat} {s t : ByteArray} {d m n : Int} (h : LzIs w b s d m t n) (x : Int) : LzIs (w.setCell ⟨b, 5, none⟩ (.int .i64 x)) b s d m t x :=
  h.put 5 _ (lz_cases _ rfl rfl rfl rfl rfl rfl)
theorem lz_new (w : World) (s : ByteArray) : LzOf (w.alloc (.cells #[.string s, .int .u32 0, .int .i32 0, .int .u32 0, .string ⟨#[]⟩, .int .i64 0] 48)) w.heap.size s false :=
  World.rowIs_alloc w _ _ _ (lz_cases _ rfl rfl rfl rfl rfl rfl)

theorem newl_any (s : ByteArray) (w : World) :
    Calls Tryd.prog 12 #[.string s] w fun e w' => e = .returned (.pointer (some ⟨w.heap.size, 0, none⟩)) ∧ w' = w.alloc (.cells #[.string s, .int .u32 0, .int .i32 0, .int .u32 0, .string ⟨#[]⟩, .int .i64 0] 48) := by
  go_enter Tryd.func12, Tryd.ntmps12
  go_wp2
  go_ret
  exact ⟨rfl, rfl⟩
theorem made_nil (w : World) : Calls Tryd.prog 13 #[.pointer none] w fun e w' => e = .returned (.int .i64 0) ∧ w = w' := by
  go_enter Tryd.func13, Tryd.ntmps13
  go_wp2
  go_ret
  exact ⟨rfl, rfl⟩
theorem bytes_nil (w : World) : Calls Tryd.prog 14 #[.pointer none] w fun e w' => e = .returned (.string ⟨#[]⟩) ∧ w = w' := by
  go_enter Tryd.func14, Tryd.ntmps14
  go_wp2
  go_ret
  exact ⟨rfl, rfl⟩
theorem bytes_is {b : Nat} {s t : ByteArray} {d m n : Int} (w : World) (h : LzIs w b s d m t n) : Calls Tryd.prog 14 #[.pointer (some ⟨b, 0, none⟩)] w fun e w' => e = .returned (.string s) ∧ w = w' := by
  have c0 := h.c0
  clear h
  go_enter Tryd.func14, Tryd.ntmps14
  go_wp2
  go_ret
  exact ⟨rfl, rfl⟩
theorem made_is {b : Nat} {s t : ByteArray} {d m n : Int} (w : World) (h : LzIs w b s d m t n) : Calls Tryd.prog 13 #[.pointer (some ⟨b, 0, none⟩)] w fun e w' => e = .returned (.int .i64 n) ∧ w = w' := by
  have c5 := Lib.hid h.c5
  clear h
  go_enter Tryd.func13, Tryd.ntmps13
  go_wp2_with (go_at_call 23; refine (on_load _ n _ c5.out).mono ?_; rintro e w1 ⟨rfl, rfl⟩)
  go_ret
  exact ⟨rfl, rfl⟩
theorem bytes_any {b : Nat} {s : ByteArray} {k : Bool} (w : World) (h : LzOf w b s k) : Calls Tryd.prog 14 #[.pointer (some ⟨b, 0, none⟩)] w fun e w' => e = .returned (.string s) ∧ w = w' := by
  cases k
  · exact bytes_is w (show LzIs w b s 0 0 ⟨#[]⟩ 0 from h)
  · exact bytes_is w (show LzIs w b s 1 0 (digS s.data.toList) 1 from h)
theorem made_any {b : Nat} {s : ByteArray} {k : Bool} (w : World) (h : LzOf w b s k) : Calls Tryd.prog 13 #[.pointer (some ⟨b, 0, none⟩)] w fun e w' => e = .returned (.int .i64 (if k then 1 else 0)) ∧ w = w' := by
  cases k
  · exact made_is w (show LzIs w b s 0 0 ⟨#[]⟩ 0 from h)
  · exact made_is w (show LzIs w b s 1 0 (digS s.data.toList) 1 from h)
end Go.Proofs.YtjmiekhjkeioaaaDoor

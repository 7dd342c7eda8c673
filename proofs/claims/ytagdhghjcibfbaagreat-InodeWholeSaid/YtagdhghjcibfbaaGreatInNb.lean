/- Layer 8: a table that nobody made. -/
import Derived.Test.YtagdhghjcibfbaaGreatInC
import Derived.Test.YtagdhghjcibfbaaGreatInD
import Derived.WalkSpells
import Derived.OwnWalk
namespace Go.Proofs.YtagdhghjcibfbaaGreat
open Go.RowKit
set_option linter.unusedVariables false
set_option maxRecDepth 100000

/-- A table that nobody made: none at all, or one whose map is none. -/
def Nob (w : World) (p : Option Addr) : Prop := p = none ∨ ∃ b, p = some ⟨b, 0, none⟩ ∧ w.cell? ⟨b, 3, none⟩ = some (.map none)
theorem Nob.below {w w' : World} {p : Option Addr} (h : Nob w p) {B : Nat} (hb : Below B w w') (hlt : ∀ a, p = some a → a.block < B) : Nob w' p := by
  rcases h with h | ⟨b, h1, h2⟩
  · exact .inl h
  · exact .inr ⟨b, h1, (hb.cell (show b < B from hlt _ h1)).trans h2⟩
section
variable {w : World} {p : Option Addr} (h : Nob w p)
include h
theorem nb_inode (id : Int) : Calls Tryz.prog 61 #[.pointer p, .int .i64 id] w fun e w' => e = .returned (.tuple #[.pointer none, .int .i64 1]) ∧ w' = w := by
  rcases h with rfl | ⟨b, rfl, c3⟩
  · go_enter Tryz.func61, Tryz.ntmps61
    go_wp2
    go_ret2
    exact ⟨rfl, rfl⟩
  · have hq := qM w none
    go_enter Tryz.func61, Tryz.ntmps61
    go_wp2
    go_ret2
    exact ⟨rfl, rfl⟩
theorem nb_inodeOf (id : Int) (b : Bool) : Calls Tryz.prog 79 #[.pointer p, .int .i64 id, .bool b] w fun e w' => e = .returned (.tuple #[.pointer none, .int .i64 1]) ∧ w' = w := by
  have C := nb_inode h id
  clear h
  go_enter Tryz.func79, Tryz.ntmps79
  go_wp2_with (go_at_call 61; (with_reducible refine C.mono ?_); rintro e w1 ⟨rfl, rfl⟩)
  go_ret2
  exact ⟨rfl, rfl⟩
theorem nb_directory (id : Int) : Calls Tryz.prog 54 #[.pointer p, .int .i64 id] w fun e w' => e = .returned (.tuple #[.pointer none, .int .i64 1]) ∧ w' = w := by
  have C := nb_inodeOf h id true
  clear h
  go_enter Tryz.func54, Tryz.ntmps54
  go_wp2_with (go_at_call 79; (with_reducible refine C.mono ?_); rintro e w1 ⟨rfl, rfl⟩)
  go_ret2
  exact ⟨rfl, rfl⟩
theorem nb_file (id : Int) : Calls Tryz.prog 51 #[.pointer p, .int .i64 id] w fun e w' => e = .returned (.tuple #[.pointer none, .int .i64 1]) ∧ w' = w := by
  have C := nb_inodeOf h id false
  clear h
  go_enter Tryz.func51, Tryz.ntmps51
  go_wp2_with (go_at_call 79; (with_reducible refine C.mono ?_); rintro e w1 ⟨rfl, rfl⟩)
  go_ret2
  exact ⟨rfl, rfl⟩
theorem nb_fileAt (id : Int) (a : Int) : Calls Tryz.prog 47 #[.pointer p, .int .i64 id, .int .i64 a] w fun e w' => e = .returned (.tuple #[.pointer none, .int .i64 1]) ∧ w' = w := by
  have C := nb_file h id
  clear h
  go_enter Tryz.func47, Tryz.ntmps47
  go_wp2_with (go_at_call 51; (with_reducible refine C.mono ?_); rintro e w1 ⟨rfl, rfl⟩)
  go_ret2
  exact ⟨rfl, rfl⟩
theorem nb_place (dir : Int) (s : ByteArray) : Calls Tryz.prog 60 #[.pointer p, .int .i64 dir, .string s] w fun e w' => e = .returned (.tuple #[.pointer none, .int .i64 1]) ∧ w' = w := by
  have C := nb_directory h dir
  clear h
  go_enter Tryz.func60, Tryz.ntmps60
  go_wp2_with (go_at_call 54; (with_reducible refine C.mono ?_); rintro e w1 ⟨rfl, rfl⟩)
  go_ret2
  exact ⟨rfl, rfl⟩
theorem nb_newPlace (dir : Int) (s : ByteArray) : Calls Tryz.prog 46 #[.pointer p, .int .i64 dir, .string s] w fun e w' => e = .returned (.tuple #[.pointer none, .int .i64 1]) ∧ w' = w := by
  have C := nb_place h dir s
  clear h
  go_enter Tryz.func46, Tryz.ntmps46
  go_wp2_with (go_at_call 60; (with_reducible refine C.mono ?_); rintro e w1 ⟨rfl, rfl⟩)
  go_ret2
  exact ⟨rfl, rfl⟩
theorem nb_entry (dir : Int) (s : ByteArray) : Calls Tryz.prog 58 #[.pointer p, .int .i64 dir, .string s] w fun e w' => e = .returned (.tuple #[.pointer none, .int .i64 0, .int .i64 1]) ∧ w' = w := by
  have C := nb_place h dir s
  clear h
  go_enter Tryz.func58, Tryz.ntmps58
  go_wp2_with (go_at_call 60; (with_reducible refine C.mono ?_); rintro e w1 ⟨rfl, rfl⟩)
  go_ret3
  exact ⟨rfl, rfl⟩
theorem nb_entryOf (dir : Int) (s : ByteArray) (b : Bool) : Calls Tryz.prog 52 #[.pointer p, .int .i64 dir, .string s, .bool b] w fun e w' => e = .returned (.tuple #[.pointer none, .int .i64 0, .int .i64 1]) ∧ w' = w := by
  have C := nb_entry h dir s
  clear h
  go_enter Tryz.func52, Tryz.ntmps52
  go_wp2_with (go_at_call 58; (with_reducible refine C.mono ?_); rintro e w1 ⟨rfl, rfl⟩)
  go_ret3
  exact ⟨rfl, rfl⟩
theorem nb_Make (dir : Int) (s : ByteArray) (b : Bool) : Calls Tryz.prog 17 #[.pointer p, .int .i64 dir, .string s, .bool b] w fun e w' => e = .returned (.tuple #[.int .i64 0, .int .i64 1]) ∧ w' = w := by
  have C := nb_newPlace h dir s
  clear h
  go_enter Tryz.func17, Tryz.ntmps17
  go_wp2_with (go_at_call 46; (with_reducible refine C.mono ?_); rintro e w1 ⟨rfl, rfl⟩)
  go_ret2
  exact ⟨rfl, rfl⟩
theorem nb_Find (dir : Int) (s : ByteArray) : Calls Tryz.prog 25 #[.pointer p, .int .i64 dir, .string s] w fun e w' => e = .returned (.tuple #[.int .i64 0, .int .i64 1]) ∧ w' = w := by
  have C := nb_entry h dir s
  clear h
  go_enter Tryz.func25, Tryz.ntmps25
  go_wp2_with (go_at_call 58; (with_reducible refine C.mono ?_); rintro e w1 ⟨rfl, rfl⟩)
  go_ret2
  exact ⟨rfl, rfl⟩
theorem nb_Link (id : Int) (dir : Int) (s : ByteArray) : Calls Tryz.prog 19 #[.pointer p, .int .i64 id, .int .i64 dir, .string s] w fun e w' => e = .returned (.int .i64 1) ∧ w' = w := by
  have C := nb_file h id
  clear h
  go_enter Tryz.func19, Tryz.ntmps19
  go_wp2_with (go_at_call 51; (with_reducible refine C.mono ?_); rintro e w1 ⟨rfl, rfl⟩)
  go_ret
  exact ⟨rfl, rfl⟩
theorem nb_Unlink (dir : Int) (s : ByteArray) : Calls Tryz.prog 20 #[.pointer p, .int .i64 dir, .string s] w fun e w' => e = .returned (.int .i64 1) ∧ w' = w := by
  have C := nb_entryOf h dir s false
  clear h
  go_enter Tryz.func20, Tryz.ntmps20
  go_wp2_with (go_at_call 52; (with_reducible refine C.mono ?_); rintro e w1 ⟨rfl, rfl⟩)
  go_ret
  exact ⟨rfl, rfl⟩
theorem nb_Remove (dir : Int) (s : ByteArray) : Calls Tryz.prog 26 #[.pointer p, .int .i64 dir, .string s] w fun e w' => e = .returned (.int .i64 1) ∧ w' = w := by
  have C := nb_entryOf h dir s true
  clear h
  go_enter Tryz.func26, Tryz.ntmps26
  go_wp2_with (go_at_call 52; (with_reducible refine C.mono ?_); rintro e w1 ⟨rfl, rfl⟩)
  go_ret
  exact ⟨rfl, rfl⟩
theorem nb_Rename (dir : Int) (s : ByteArray) (to : Int) (u : ByteArray) : Calls Tryz.prog 27 #[.pointer p, .int .i64 dir, .string s, .int .i64 to, .string u] w fun e w' => e = .returned (.int .i64 1) ∧ w' = w := by
  have C := nb_entryOf h dir s false
  clear h
  go_enter Tryz.func27, Tryz.ntmps27
  go_wp2_with (go_at_call 52; (with_reducible refine C.mono ?_); rintro e w1 ⟨rfl, rfl⟩)
  go_ret
  exact ⟨rfl, rfl⟩
theorem nb_List (dir : Int) : Calls Tryz.prog 22 #[.pointer p, .int .i64 dir] w fun e w' => e = .returned (.tuple #[.slice none 0 0, .int .i64 1]) ∧ w' = w := by
  have C := nb_directory h dir
  clear h
  go_enter Tryz.func22, Tryz.ntmps22
  go_wp2_with (go_at_call 54; (with_reducible refine C.mono ?_); rintro e w1 ⟨rfl, rfl⟩)
  go_ret2
  exact ⟨rfl, rfl⟩
theorem nb_Read (id : Int) (a : Int) (n : Int) : Calls Tryz.prog 21 #[.pointer p, .int .i64 id, .int .i64 a, .int .i64 n] w fun e w' => e = .returned (.tuple #[.string ⟨#[]⟩, .int .i64 1]) ∧ w' = w := by
  have C := nb_fileAt h id (min a n)
  clear h
  go_enter Tryz.func21, Tryz.ntmps21
  go_wp2_with (go_at_call 47; (with_reducible refine C.mono ?_); rintro e w1 ⟨rfl, rfl⟩)
  go_ret2
  exact ⟨rfl, rfl⟩
theorem nb_Write (id : Int) (a : Int) (s : ByteArray) : Calls Tryz.prog 18 #[.pointer p, .int .i64 id, .int .i64 a, .string s] w fun e w' => e = .returned (.int .i64 1) ∧ w' = w := by
  have C := nb_fileAt h id a
  clear h
  go_enter Tryz.func18, Tryz.ntmps18
  go_wp2_with (go_at_call 47; (with_reducible refine C.mono ?_); rintro e w1 ⟨rfl, rfl⟩)
  go_ret
  exact ⟨rfl, rfl⟩
theorem nb_Truncate (id : Int) (n : Int) : Calls Tryz.prog 28 #[.pointer p, .int .i64 id, .int .i64 n] w fun e w' => e = .returned (.int .i64 1) ∧ w' = w := by
  have C := nb_fileAt h id n
  clear h
  go_enter Tryz.func28, Tryz.ntmps28
  go_wp2_with (go_at_call 47; (with_reducible refine C.mono ?_); rintro e w1 ⟨rfl, rfl⟩)
  go_ret
  exact ⟨rfl, rfl⟩
theorem nb_Hold (id : Int) : Calls Tryz.prog 29 #[.pointer p, .int .i64 id] w fun e w' => e = .returned (.int .i64 1) ∧ w' = w := by
  have C := nb_file h id
  clear h
  go_enter Tryz.func29, Tryz.ntmps29
  go_wp2_with (go_at_call 51; (with_reducible refine C.mono ?_); rintro e w1 ⟨rfl, rfl⟩)
  go_ret
  exact ⟨rfl, rfl⟩
theorem nb_Drop (id : Int) : Calls Tryz.prog 30 #[.pointer p, .int .i64 id] w fun e w' => e = .returned (.int .i64 1) ∧ w' = w := by
  have C := nb_inode h id
  clear h
  go_enter Tryz.func30, Tryz.ntmps30
  go_wp2_with (go_at_call 61; (with_reducible refine C.mono ?_); rintro e w1 ⟨rfl, rfl⟩)
  go_ret
  exact ⟨rfl, rfl⟩
theorem nb_Used (hz : ∀ a, p = some a → w.cell? ⟨a.block, 1, none⟩ = some (.int .i64 0)) : Calls Tryz.prog 12 #[.pointer p] w fun e w' => e = .returned (.int .i64 0) ∧ w' = w := by
  rcases h with rfl | ⟨b, rfl, c3⟩
  · go_enter Tryz.func12, Tryz.ntmps12
    go_wp2
    go_ret
    exact ⟨rfl, rfl⟩
  · have c1 := hz _ rfl
    clear hz
    go_enter Tryz.func12, Tryz.ntmps12
    go_wp2
    go_ret
    exact ⟨rfl, rfl⟩
theorem nb_Clone : Calls Tryz.prog 9 #[.pointer p] w fun e w' => e = .returned (.pointer none) ∧ w' = w := by
  rcases h with rfl | ⟨b, rfl, c3⟩
  · go_enter Tryz.func9, Tryz.ntmps9
    go_wp2
    go_ret
    exact ⟨rfl, rfl⟩
  · have hq := qM w none
    go_enter Tryz.func9, Tryz.ntmps9
    go_wp2
    go_ret
    exact ⟨rfl, rfl⟩
end
end Go.Proofs.YtagdhghjcibfbaaGreat

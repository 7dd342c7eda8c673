/- What the cards of layer 2 share: the table as the rows list it, and a world for the witness in which it holds what its initialiser lays. -/
import Derived.Test.YtjmiekhjkeioaaaDoorCards
import Derived.Test.YtjmiekhjkeioaaaDoorTie
import Derived.Test.YtjmiekhjkeioaaaDoorShaK
import Derived.Deep.DeepHandedRow
import Derived.Lib.LaidTab
import Derived.ProofKit
namespace Go.Proofs.YtjmiekhjkeioaaaDoor
open Go.RowKit
set_option linter.unusedVariables false

def kInts : List Int := kList.map fun k => (k.toNat : Int)
theorem gTab : Tryd.prog.globalNamed "cooperage/sha.roundWords" = some 0 := by kernel_rfl
theorem gTabType : (Tryd.prog.globals[0]?).map (·.type) = some 78 := by kernel_rfl
theorem cells43 : Tryd.prog.cellsOf 78 = 64 := by kernel_rfl
theorem cells27 : Tryd.prog.cellsOf 35 = 1 := by kernel_rfl
theorem laid_eq : (Rows.laid_cooperage_sha_roundWords : DataW Unit) = Lib.tabData .u32 kInts := by kernel_rfl
theorem table {W : World} (h : laidMet Tryd.prog [("cooperage/sha.roundWords", Rows.laid_cooperage_sha_roundWords)] W) : Lib.TabIs Tryd.prog W "cooperage/sha.roundWords" .u32 kInts :=
  Lib.tabIs_of_head (rest := []) gTab gTabType arr43 Tryd.underlying35 cells27 cells43 (by rw [← laid_eq]; exact h)
theorem kInts_at : ∀ t, t < 64 → kInts.getD t 0 = ((Kc t).toNat : Int) := by decide
theorem tab_ok {W : World} (h : laidMet Tryd.prog [("cooperage/sha.roundWords", Rows.laid_cooperage_sha_roundWords)] W) : TabOK W := by
  have hc : ∀ t, t < 64 → W.cell? ⟨0, t, none⟩ = some (.int .u32 ((Kc t).toNat : Int)) := fun t ht => by
    rw [(table h).cell gTab t (by show t < 64; exact ht), kInts_at t ht]
  exact ⟨World.block_lt_of_cell? W _ (hc 0 (by omega)), hc⟩
/-- A world for the witness: the settled one, the table holding what its initialiser lays. -/
noncomputable def laidWorld (os : Os) : World :=
  { World.holding Tryd.prog os ⟨#[], #[], []⟩ with heap := (World.holding Tryd.prog os ⟨#[], #[], []⟩).heap.modify 0 fun
      | .cells _ t frozen => .cells (kInts.map (Value.int .u32)).toArray t frozen
      | o => o }
end Go.Proofs.YtjmiekhjkeioaaaDoor

/- Layer 8: a new table. -/
import Derived.Test.YtagdhghjcibfbaaGreatInU
namespace Go.Proofs.YtagdhghjcibfbaaGreat
open Go.RowKit
set_option linter.unusedVariables false
set_option linter.unusedSectionVars false
set_option maxRecDepth 100000

theorem wf_fresh (q : Int) : Wf (Tb.fresh q) := by
  have get : ∀ id n, aget id (Tb.fresh q).nodes = some n → id = 1 ∧ n = ⟨true, 1, 0, [], []⟩ := fun id n hn => by
    change (if (1 : Int) = id then some (⟨true, 1, 0, [], []⟩ : Nd) else none) = some n at hn
    split at hn
    · next e => cases hn; exact ⟨e.symm, rfl⟩
    · cases hn
  have g1 : aget 1 (Tb.fresh q).nodes = some ⟨true, 1, 0, [], []⟩ := rfl
  refine ⟨List.pairwise_singleton _ _, fun id n hn => ?_, fun id n hn hd => ?_, fun id n hn hd => ?_, fun i n s id hn hs => ?_, fun id n hn => ?_, fun id n hn _ => ?_, fun id n hn => ?_, ⟨_, g1, rfl⟩, fun id n hn => ?_, rfl, fun id n s v hn hs => ?_⟩
  · rw [(get _ _ hn).2]; exact List.Pairwise.nil
  · rw [(get _ _ hn).2]
  · rw [(get _ _ hn).2]; exact ⟨rfl, rfl, rfl⟩
  · rw [(get _ _ hn).2] at hs; cases hs
  · obtain ⟨rfl, rfl⟩ := get _ _ hn; rfl
  · rw [(get _ _ hn).2]; exact .inl (by show (1 : Int) ≠ 0; decide)
  · rw [(get _ _ hn).2]; exact ⟨by show (0 : Int) ≤ 0; decide, by show (0 : Int) ≤ 1048576; decide⟩
  · rw [(get _ _ hn).1]; exact ⟨by decide, by show (1 : Int) ≤ 1; decide⟩
  · rw [(get _ _ hn).2] at hs; cases hs
theorem bd_fresh (q : Int) (h1 : 64 ≤ q) (h2 : q ≤ 1099511627776) : Bd (Tb.fresh q) 0 :=
  ⟨⟨by show (1 : Int) ≤ 1; decide, by show (1 : Int) ≤ 1; decide⟩, by show 1 ≤ 4096; decide, ⟨h1, h1, h2⟩, fun id n hn => by
    change (if (1 : Int) = id then some (⟨true, 1, 0, [], []⟩ : Nd) else none) = some n at hn
    split at hn
    · cases hn; exact ⟨Nat.le_refl _, by show (1 : Int) ≤ 1; decide⟩
    · cases hn⟩
end Go.Proofs.YtagdhghjcibfbaaGreat

/- Layer 8: what an act on a table in memory leaves. -/
import Derived.Test.YtagdhghjcibfbaaGreatInU
namespace Go.Proofs.YtagdhghjcibfbaaGreat
open Go.RowKit
set_option linter.unusedVariables false
set_option linter.unusedSectionVars false
set_option maxRecDepth 100000

/-- What do leaves. -/
structure DoP (w : World) (t : Nat) (T' : Tb) (S : Nat → Prop) (w' : World) : Prop where
  tab : Tab w' t T' (fun k => S k ∨ New w w' k)
  ch : Ch S w w'
theorem doP_left {w w1 w' : World} {t mb : Nat} {T T' : Tb} {A : Int → Nat × Nat} {S : Nat → Prop} (hb : Below w.heap.size w w1) (hl : Left w1 t T T' A mb w') (hS : ∀ k, Own t mb A T.nodes k → S k) (hO : ∀ k, Own t mb A T'.nodes k → Own t mb A T.nodes k) : DoP w t T' S w' :=
  ⟨⟨A, mb, hl.tab, fun k hk => .inl (hS k (hO k hk))⟩, (Ch.of_below hb).trans hl.ch (fun x _ hx => hS x hx)⟩
theorem doP_leftX {w w1 w' : World} {t mb : Nat} {T T' : Tb} {A A' : Int → Nat × Nat} {S : Nat → Prop} (hb : Below w.heap.size w w1) (hl : LeftX w1 t T T' A mb A' w') (hS : ∀ k, Own t mb A T.nodes k → S k) : DoP w t T' S w' :=
  ⟨⟨A', mb, hl.tab, fun k hk => by
      rcases hl.own k hk with h | h
      · exact .inl (hS k h)
      · right; unfold New at *; have := hb.size; omega⟩, (Ch.of_below hb).trans hl.ch (fun x _ hx => hS x hx)⟩
theorem doP_below {w w' : World} {t mb : Nat} {T : Tb} {A : Int → Nat × Nat} {S : Nat → Prop} (h : TbAt w t T A mb) (hb : Below w.heap.size w w') (hS : ∀ k, Own t mb A T.nodes k → S k) : DoP w t T S w' :=
  ⟨⟨A, mb, h.below hb, fun k hk => .inl (hS k hk)⟩, Ch.of_below hb⟩
end Go.Proofs.YtagdhghjcibfbaaGreat

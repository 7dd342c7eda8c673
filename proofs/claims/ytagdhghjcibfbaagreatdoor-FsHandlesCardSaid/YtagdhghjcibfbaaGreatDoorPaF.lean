/- Layer 7: the reference's Split, Join, Under, Compare; SameTexts. -/
import Derived.Test.YtagdhghjcibfbaaGreatDoorPaE
namespace Go.Proofs.YtagdhghjcibfbaaGreatDoor
open Go.RowKit
set_option linter.unusedVariables false
set_option maxRecDepth 100000

theorem belowDN {B : Nat} {a w : World} (h : Below B a w) (q : Nat) : Below B a (w.drewN q) := ⟨h.os, h.tape, h.output, h.size, h.block⟩
theorem slDN {w : World} {a : Option Addr} {ls : List (List UInt8)} (h : SlAt w a ls) (q : Nat) : SlAt (w.drewN q) a ls := h
/-- What is known of the parts of a path that has some. -/
theorem split_use {ls r : List (List UInt8)} {q : List UInt8} {n : Nat} {w w1 : World} {e : Ending} (hrq : ls = r ++ [q]) (hn : n = r.length) (h : RetSl w ls e w1) :
    ∃ b o c, e = .returned (.slice (some ⟨b, o, none⟩) (n + 1) c) ∧ n + 1 ≤ c ∧ c ≤ 9223372036854775807 ∧ w1.cell? ⟨b, o + n, none⟩ = some (.string (bs q)) ∧ SlAt w1 (some ⟨b, o, none⟩) r ∧ Below w.heap.size w w1 := by
  subst hrq hn
  obtain ⟨v, rfl, ⟨a, c, rfl, hc1, hc2, hSl⟩, hb⟩ := h
  have hS := hSl
  rcases hSl with h | ⟨b, o, rfl, hw, hc⟩
  · simp at h
  · refine ⟨b, o, c, by simp, by simpa using hc1, by unfold maxLen at hc2; omega, ?_, ?_, hb⟩
    · have := hc r.length (by simp)
      simpa using this
    · have := hS.take r.length
      simpa using this


theorem add3 (w0 : World) (d n : List UInt8) (h : d.length + n.length + 1 ≤ 9223372036854775807) :
    (Op.stringOp .add (bs d) ⟨#[47]⟩).run Tryz.prog w0 = .ok (.string (bs (d ++ [47]))) w0 ∧ (Op.stringOp .add (bs (d ++ [47])) (bs n)).run Tryz.prog w0 = .ok (.string (bs (d ++ 47 :: n))) w0 := by
  refine ⟨bs_add w0 d [47] (by simp; omega), ?_⟩
  rw [bs_add w0 (d ++ [47]) n (by simp; omega)]; simp


/-- Two texts' parts, both in memory. -/
theorem two_use {ls ms : List (List UInt8)} {w w1 w2 : World} {a : Option Addr} (h1 : SlAt w1 a ls) (hb1 : Below w.heap.size w w1) {e : Ending} (h : RetSl w1 ms e w2) :
    ∃ a2 c2, e = .returned (.slice a2 ms.length c2) ∧ SlAt w2 a ls ∧ SlAt w2 a2 ms ∧ Below w.heap.size w w2 := by
  obtain ⟨v, rfl, ⟨a2, c2, rfl, _, _, hS⟩, hb⟩ := h
  exact ⟨a2, c2, rfl, h1.below hb, hS, btz hb1 hb⟩
theorem one_use {ls : List (List UInt8)} {w w1 : World} {e : Ending} (h : RetSl w ls e w1) :
    ∃ a c, e = .returned (.slice a ls.length c) ∧ SlAt w1 a ls ∧ Below w.heap.size w w1 := by
  obtain ⟨v, rfl, ⟨a, c, rfl, _, _, hS⟩, hb⟩ := h
  exact ⟨a, c, rfl, hS, hb⟩


end Go.Proofs.YtagdhghjcibfbaaGreatDoor

/-
  DERIVED. GIVEN WITH THE SEED: THE CARDS: each row of YtghcjiblmkknaaaDoorRows.lean that lists a variable, with what it lists TIED to the program's text (the seventh form; the later family's looks); each row that meets fmt, with fmt's text TOLD by the authors' own Lean function (tested against real Go, not proved from fmt's source: count such statements apart). THE CARD IS WHAT COUNTS. Prove the row's statement (the work); the ties are given (YtghcjiblmkknaaaDoorTie.lean); close each card by the builder's one call (the guide's Derived/Test/ToyasCard.lean, 'card_holds'). Laid BY PROGRAM, IN A SANDBOX (cutbox-door.mjs). By AI agents, Wed Nov 11 2026. No macro, syntax, notation, axiom, sorry.
-/
import Derived.Test.YtghcjiblmkknaaaDoorRows
import GoSem.ClaimSeven
namespace Go.Proofs.YtghcjiblmkknaaaDoor
namespace Rows

/-- THE TIED CARD OF 'cooperagelaw04.QuoteIs'. -/
def quoteIsCard : Claim7 := { stood := { row := quoteIsRow, standIns := [], harness := (true, "cfb36250e1bc91b62a66933fd8b7b42525c3d291c9a3823c9d0a0eae35dc3fd3"), looks := false }, kinds := [], alts := [], laidByText := true, laidKinds := [.data, .pinned, .pinned], laidTests := true, laidLooks := .later }
def QuoteIsCardSaid : Prop := Claim7.holds Tryd.pinned (.plain (OpenSpec.ofChange quoteIsSpec)) quoteIsCard

/-- THE TIED CARD OF 'cooperagelaw04.QuoteReads'. -/
def quoteReadsCard : Claim7 := { stood := { row := quoteReadsRow, standIns := [], harness := (true, "cfb36250e1bc91b62a66933fd8b7b42525c3d291c9a3823c9d0a0eae35dc3fd3"), looks := false }, kinds := [], alts := [], laidByText := true, laidKinds := [.data, .pinned, .pinned], laidTests := true, laidLooks := .later }
def QuoteReadsCardSaid : Prop := Claim7.holds Tryd.pinned (.plain (OpenSpec.ofChange quoteReadsSpec)) quoteReadsCard

/-- THE TIED CARD OF 'cooperagelaw04.QuoteBack'. -/
def quoteBackCard : Claim7 := { stood := { row := quoteBackRow, standIns := [], harness := (true, "cfb36250e1bc91b62a66933fd8b7b42525c3d291c9a3823c9d0a0eae35dc3fd3"), looks := false }, kinds := [], alts := [], laidByText := true, laidKinds := [.data, .pinned, .pinned], laidTests := true, laidLooks := .later }
def QuoteBackCardSaid : Prop := Claim7.holds Tryd.pinned (.plain (OpenSpec.ofChange quoteBackSpec)) quoteBackCard

/-- THE TIED CARD OF 'cooperagelaw04.QuoteLimit'. -/
def quoteLimitCard : Claim7 := { stood := { row := quoteLimitRow, standIns := [], harness := (true, "cfb36250e1bc91b62a66933fd8b7b42525c3d291c9a3823c9d0a0eae35dc3fd3"), looks := false }, kinds := [], alts := [], laidByText := true, laidKinds := [.data, .pinned, .pinned], laidTests := true, laidLooks := .later }
def QuoteLimitCardSaid : Prop := Claim7.holds Tryd.pinned (.plain (OpenSpec.ofChange quoteLimitSpec)) quoteLimitCard

/-- THE SECOND FORM's CARD OF 'cooperagelaw04.QuoteIs'. -/
def quoteIsUptoCard : Claim7 := { stood := { row := quoteIsUptoRow, standIns := [], harness := (true, "cfb36250e1bc91b62a66933fd8b7b42525c3d291c9a3823c9d0a0eae35dc3fd3"), looks := false }, kinds := [], alts := [], laidByText := true, laidKinds := [.data, .pinned, .pinned], laidTests := true, laidLooks := .later }
def QuoteIsUptoCardSaid : Prop := Claim7.holds Tryd.pinned (.plain (OpenSpec.upto quoteIsSpec)) quoteIsUptoCard

/-- THE SECOND FORM's CARD OF 'cooperagelaw04.QuoteReads'. -/
def quoteReadsUptoCard : Claim7 := { stood := { row := quoteReadsUptoRow, standIns := [], harness := (true, "cfb36250e1bc91b62a66933fd8b7b42525c3d291c9a3823c9d0a0eae35dc3fd3"), looks := false }, kinds := [], alts := [], laidByText := true, laidKinds := [.data, .pinned, .pinned], laidTests := true, laidLooks := .later }
def QuoteReadsUptoCardSaid : Prop := Claim7.holds Tryd.pinned (.plain (OpenSpec.upto quoteReadsSpec)) quoteReadsUptoCard

/-- THE SECOND FORM's CARD OF 'cooperagelaw04.QuoteBack'. -/
def quoteBackUptoCard : Claim7 := { stood := { row := quoteBackUptoRow, standIns := [], harness := (true, "cfb36250e1bc91b62a66933fd8b7b42525c3d291c9a3823c9d0a0eae35dc3fd3"), looks := false }, kinds := [], alts := [], laidByText := true, laidKinds := [.data, .pinned, .pinned], laidTests := true, laidLooks := .later }
def QuoteBackUptoCardSaid : Prop := Claim7.holds Tryd.pinned (.plain (OpenSpec.upto quoteBackSpec)) quoteBackUptoCard

/-- THE SECOND FORM's CARD OF 'cooperagelaw04.QuoteLimit'. -/
def quoteLimitUptoCard : Claim7 := { stood := { row := quoteLimitUptoRow, standIns := [], harness := (true, "cfb36250e1bc91b62a66933fd8b7b42525c3d291c9a3823c9d0a0eae35dc3fd3"), looks := false }, kinds := [], alts := [], laidByText := true, laidKinds := [.data, .pinned, .pinned], laidTests := true, laidLooks := .later }
def QuoteLimitUptoCardSaid : Prop := Claim7.holds Tryd.pinned (.plain (OpenSpec.upto quoteLimitSpec)) quoteLimitUptoCard
end Rows
end Go.Proofs.YtghcjiblmkknaaaDoor

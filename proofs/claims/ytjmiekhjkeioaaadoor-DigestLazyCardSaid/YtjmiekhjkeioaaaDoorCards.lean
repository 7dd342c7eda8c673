/-
  DERIVED. GIVEN WITH THE SEED: THE CARDS: each row of YtjmiekhjkeioaaaDoorRows.lean that lists a variable, with what it lists TIED to the program's text (the seventh form; the later family's looks); each row that meets fmt, with fmt's text TOLD by the authors' own Lean function (tested against real Go, not proved from fmt's source: count such statements apart). THE CARD IS WHAT COUNTS. Prove the row's statement (the work); the ties are given (YtjmiekhjkeioaaaDoorTie.lean); close each card by the builder's one call (the guide's Derived/Test/ToyasCard.lean, 'card_holds'). Laid BY PROGRAM, IN A SANDBOX (cutbox-door.mjs). By AI agents, Wed Nov 11 2026. No macro, syntax, notation, axiom, sorry.
-/
import Derived.Test.YtjmiekhjkeioaaaDoorRows
import GoSem.ClaimSeven
namespace Go.Proofs.YtjmiekhjkeioaaaDoor
namespace Rows

/-- THE TIED CARD OF 'cooperagelaw03.DigestIs'. -/
def digestIsCard : Claim7 := { stood := { row := digestIsRow, standIns := [], harness := (true, "90b76e9fd993d856a92285325979d798850c06794ea0465117571e7956b1f240"), looks := false }, kinds := [], alts := [], laidByText := true, laidKinds := [.data], laidTests := true, laidLooks := .later }
def DigestIsCardSaid : Prop := Claim7.holds Tryd.pinned (.plain (OpenSpec.ofChange digestIsSpec)) digestIsCard

/-- THE TIED CARD OF 'cooperagelaw03.DigestLazy'. -/
def digestLazyCard : Claim7 := { stood := { row := digestLazyRow, standIns := [], harness := (true, "90b76e9fd993d856a92285325979d798850c06794ea0465117571e7956b1f240"), looks := false }, kinds := [], alts := [], laidByText := true, laidKinds := [.data], laidTests := true, laidLooks := .later }
def DigestLazyCardSaid : Prop := Claim7.holds Tryd.pinned (.plain (OpenSpec.ofChange digestLazySpec)) digestLazyCard

/-- THE TIED CARD OF 'cooperagelaw03.DigestNobody'. -/
def digestNobodyCard : Claim7 := { stood := { row := digestNobodyRow, standIns := [], harness := (true, "90b76e9fd993d856a92285325979d798850c06794ea0465117571e7956b1f240"), looks := false }, kinds := [], alts := [], laidByText := true, laidKinds := [.data], laidTests := true, laidLooks := .later }
def DigestNobodyCardSaid : Prop := Claim7.holds Tryd.pinned (.plain (OpenSpec.ofChange digestNobodySpec)) digestNobodyCard

/-- THE SECOND FORM's CARD OF 'cooperagelaw03.DigestIs'. -/
def digestIsUptoCard : Claim7 := { stood := { row := digestIsUptoRow, standIns := [], harness := (true, "90b76e9fd993d856a92285325979d798850c06794ea0465117571e7956b1f240"), looks := false }, kinds := [], alts := [], laidByText := true, laidKinds := [.data], laidTests := true, laidLooks := .later }
def DigestIsUptoCardSaid : Prop := Claim7.holds Tryd.pinned (.plain (OpenSpec.upto digestIsSpec)) digestIsUptoCard

/-- THE SECOND FORM's CARD OF 'cooperagelaw03.DigestLazy'. -/
def digestLazyUptoCard : Claim7 := { stood := { row := digestLazyUptoRow, standIns := [], harness := (true, "90b76e9fd993d856a92285325979d798850c06794ea0465117571e7956b1f240"), looks := false }, kinds := [], alts := [], laidByText := true, laidKinds := [.data], laidTests := true, laidLooks := .later }
def DigestLazyUptoCardSaid : Prop := Claim7.holds Tryd.pinned (.plain (OpenSpec.upto digestLazySpec)) digestLazyUptoCard

/-- THE SECOND FORM's CARD OF 'cooperagelaw03.DigestNobody'. -/
def digestNobodyUptoCard : Claim7 := { stood := { row := digestNobodyUptoRow, standIns := [], harness := (true, "90b76e9fd993d856a92285325979d798850c06794ea0465117571e7956b1f240"), looks := false }, kinds := [], alts := [], laidByText := true, laidKinds := [.data], laidTests := true, laidLooks := .later }
def DigestNobodyUptoCardSaid : Prop := Claim7.holds Tryd.pinned (.plain (OpenSpec.upto digestNobodySpec)) digestNobodyUptoCard
end Rows
end Go.Proofs.YtjmiekhjkeioaaaDoor

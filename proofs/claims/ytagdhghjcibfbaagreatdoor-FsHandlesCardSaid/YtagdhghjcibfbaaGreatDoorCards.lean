/-
  DERIVED. GIVEN WITH THE SEED: THE CARDS: each row of YtagdhghjcibfbaaGreatDoorRows.lean that lists a variable, with what it lists TIED to the program's text (the seventh form; the later family's looks); each row that meets fmt, with fmt's text TOLD by the authors' own Lean function (tested against real Go, not proved from fmt's source: count such statements apart). THE CARD IS WHAT COUNTS. Prove the row's statement (the work); the ties are given (YtagdhghjcibfbaaGreatDoorTie.lean); close each card by the builder's one call (the guide's Derived/Test/ToyasCard.lean, 'card_holds'). Laid BY PROGRAM, IN A SANDBOX (cutbox-door.mjs). By AI agents, Wed Nov 11 2026. No macro, syntax, notation, axiom, sorry.
-/
import Derived.Test.YtagdhghjcibfbaaGreatDoorRows
import GoSem.ClaimSeven
namespace Go.Proofs.YtagdhghjcibfbaaGreatDoor
namespace Rows

/-- THE TIED CARD OF 'cooperagelaw09.FsHandles'. -/
def fsHandlesCard : Claim7 := { stood := { row := fsHandlesRow, standIns := [], harness := (true, "21515a3fc0fbb113b61ab3b96ed2556834ed5b9a5ba97650337125665f196fb5"), looks := true }, kinds := [], alts := [], laidByText := true, laidKinds := [.data, .pinned], laidTests := true, laidLooks := .later }
def FsHandlesCardSaid : Prop := Claim7.holds Tryz.pinned (.plain (OpenSpec.ofChange fsHandlesSpec)) fsHandlesCard

/-- THE TIED CARD OF 'cooperagelaw09.FsSwaps'. -/
def fsSwapsCard : Claim7 := { stood := { row := fsSwapsRow, standIns := [], harness := (true, "21515a3fc0fbb113b61ab3b96ed2556834ed5b9a5ba97650337125665f196fb5"), looks := true }, kinds := [], alts := [], laidByText := true, laidKinds := [.data, .pinned], laidTests := true, laidLooks := .later }
def FsSwapsCardSaid : Prop := Claim7.holds Tryz.pinned (.plain (OpenSpec.ofChange fsSwapsSpec)) fsSwapsCard

/-- THE TIED CARD OF 'cooperagelaw09.FsNobody'. -/
def fsNobodyCard : Claim7 := { stood := { row := fsNobodyRow, standIns := [], harness := (true, "21515a3fc0fbb113b61ab3b96ed2556834ed5b9a5ba97650337125665f196fb5"), looks := true }, kinds := [], alts := [], laidByText := true, laidKinds := [.data, .pinned], laidTests := true, laidLooks := .later }
def FsNobodyCardSaid : Prop := Claim7.holds Tryz.pinned (.plain (OpenSpec.ofChange fsNobodySpec)) fsNobodyCard

/-- THE SECOND FORM's CARD OF 'cooperagelaw09.FsHandles'. -/
def fsHandlesUptoCard : Claim7 := { stood := { row := fsHandlesUptoRow, standIns := [], harness := (true, "21515a3fc0fbb113b61ab3b96ed2556834ed5b9a5ba97650337125665f196fb5"), looks := true }, kinds := [], alts := [], laidByText := true, laidKinds := [.data, .pinned], laidTests := true, laidLooks := .later }
def FsHandlesUptoCardSaid : Prop := Claim7.holds Tryz.pinned (.plain (OpenSpec.upto fsHandlesSpec)) fsHandlesUptoCard

/-- THE SECOND FORM's CARD OF 'cooperagelaw09.FsSwaps'. -/
def fsSwapsUptoCard : Claim7 := { stood := { row := fsSwapsUptoRow, standIns := [], harness := (true, "21515a3fc0fbb113b61ab3b96ed2556834ed5b9a5ba97650337125665f196fb5"), looks := true }, kinds := [], alts := [], laidByText := true, laidKinds := [.data, .pinned], laidTests := true, laidLooks := .later }
def FsSwapsUptoCardSaid : Prop := Claim7.holds Tryz.pinned (.plain (OpenSpec.upto fsSwapsSpec)) fsSwapsUptoCard

/-- THE SECOND FORM's CARD OF 'cooperagelaw09.FsNobody'. -/
def fsNobodyUptoCard : Claim7 := { stood := { row := fsNobodyUptoRow, standIns := [], harness := (true, "21515a3fc0fbb113b61ab3b96ed2556834ed5b9a5ba97650337125665f196fb5"), looks := true }, kinds := [], alts := [], laidByText := true, laidKinds := [.data, .pinned], laidTests := true, laidLooks := .later }
def FsNobodyUptoCardSaid : Prop := Claim7.holds Tryz.pinned (.plain (OpenSpec.upto fsNobodySpec)) fsNobodyUptoCard
end Rows
end Go.Proofs.YtagdhghjcibfbaaGreatDoor

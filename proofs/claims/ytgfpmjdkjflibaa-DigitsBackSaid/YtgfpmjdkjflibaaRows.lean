/-
  No cell of these rows narrows 'for every input' (looked for: loops, veiled, ifaces, maps, wideKeys, modest, calm, conditions, laid).
  DERIVED. THE GIVEN ROWS OF THIS SEAT. 4 by the template 'for every input the law returns true; each argument reads behind the call as it read before'; 0 by the template 'total and deterministic' (their statements: YtgfpmjdkjflibaaTotals.lean).
  GIVEN WITH THE SEED: the statements are not yours to turn. If you find one false, say at which input.
  Laid BY PROGRAM, IN A SANDBOX (cutbox-rows.mjs): the forced cells as the released guide's own fill.sh prints them over the translation 7eda6dd06f107f9a… (all of the seat's roots in one cut). By AI agents, Wed Nov 11 2026. No macro, syntax, notation, axiom, sorry.
-/
import Derived.Test.YtgfpmjdkjflibaaChecked
import GoSem.Claim
import GoSem.ClaimJoined
import GoSem.ClaimMapViews
import Derived.JoinedTies
import Derived.KernelRfl
namespace Go.Proofs.Ytgfpmjdkjflibaa
/- THE CELL 'sum', in the pinned program and in every row, IS THE sha256 OF THE DUMP (.gsa) THAT YtgfpmjdkjflibaaProg.lean LOADS. Nothing in Lean hashes anything: it is a label: what it is worth is what the hold of that sum in a sandbox is worth. -/
noncomputable def Try.pinned : Pinned := { name := "ytgfpmjdkjflibaa", sum := "7eda6dd06f107f9a53ec699d239eeebf6fe70bfbc051d0753feb7f8c980e6a4d", checked := Try.checked }
namespace Rows
def none {H : Type} : Left H := { results := [], args := [] }

/-- 'cooperagelaw01.DigitsDec': WHATEVER THE INPUT: true; the input reads as it did. -/
def digitsDecSpec : ChangeSpec := { name := "digitsDec", fn := fun _ => fun
  | [d1, d2] => { results := [.lit (.bool true)], args := [d1, d2] }
  | _ => none }
def digitsDecRow : OpenClaim := { program := "ytgfpmjdkjflibaa", sum := "7eda6dd06f107f9a53ec699d239eeebf6fe70bfbc051d0753feb7f8c980e6a4d", func := "cooperage/cooperagelaw01.DigitsDec", spec := "digitsDec", recurses := true, apart := false }
def DigitsDecSaid : Prop := digitsDecRow.holds Try.pinned (OpenSpec.ofChange digitsDecSpec)

/-- ITS FALSE NEIGHBOUR: 'it returns false'. Refute it at one input. -/
def digitsDecWrong : ChangeSpec := { name := "digitsDec", fn := fun _ => fun
  | [d1, d2] => { results := [.lit (.bool false)], args := [d1, d2] }
  | _ => none }
def DigitsDecWrongFalsely : Prop := digitsDecRow.holds Try.pinned (OpenSpec.ofChange digitsDecWrong)

/-- 'cooperagelaw01.DigitsOctal': WHATEVER THE INPUT: true; the input reads as it did. -/
def digitsOctalSpec : ChangeSpec := { name := "digitsOctal", fn := fun _ => fun
  | [d1, d2, d3] => { results := [.lit (.bool true)], args := [d1, d2, d3] }
  | _ => none }
def digitsOctalRow : OpenClaim := { program := "ytgfpmjdkjflibaa", sum := "7eda6dd06f107f9a53ec699d239eeebf6fe70bfbc051d0753feb7f8c980e6a4d", func := "cooperage/cooperagelaw01.DigitsOctal", spec := "digitsOctal", apart := false }
def DigitsOctalSaid : Prop := digitsOctalRow.holds Try.pinned (OpenSpec.ofChange digitsOctalSpec)

/-- ITS FALSE NEIGHBOUR: 'it returns false'. Refute it at one input. -/
def digitsOctalWrong : ChangeSpec := { name := "digitsOctal", fn := fun _ => fun
  | [d1, d2, d3] => { results := [.lit (.bool false)], args := [d1, d2, d3] }
  | _ => none }
def DigitsOctalWrongFalsely : Prop := digitsOctalRow.holds Try.pinned (OpenSpec.ofChange digitsOctalWrong)

/-- 'cooperagelaw01.DigitsHex': WHATEVER THE INPUT: true; the input reads as it did. -/
def digitsHexSpec : ChangeSpec := { name := "digitsHex", fn := fun _ => fun
  | [d1, d2] => { results := [.lit (.bool true)], args := [d1, d2] }
  | _ => none }
def digitsHexRow : OpenClaim := { program := "ytgfpmjdkjflibaa", sum := "7eda6dd06f107f9a53ec699d239eeebf6fe70bfbc051d0753feb7f8c980e6a4d", func := "cooperage/cooperagelaw01.DigitsHex", spec := "digitsHex", apart := false }
def DigitsHexSaid : Prop := digitsHexRow.holds Try.pinned (OpenSpec.ofChange digitsHexSpec)

/-- ITS FALSE NEIGHBOUR: 'it returns false'. Refute it at one input. -/
def digitsHexWrong : ChangeSpec := { name := "digitsHex", fn := fun _ => fun
  | [d1, d2] => { results := [.lit (.bool false)], args := [d1, d2] }
  | _ => none }
def DigitsHexWrongFalsely : Prop := digitsHexRow.holds Try.pinned (OpenSpec.ofChange digitsHexWrong)

/-- 'cooperagelaw01.DigitsBack': WHATEVER THE INPUT: true; the input reads as it did. -/
def digitsBackSpec : ChangeSpec := { name := "digitsBack", fn := fun _ => fun
  | [d1, d2, d3] => { results := [.lit (.bool true)], args := [d1, d2, d3] }
  | _ => none }
def digitsBackRow : OpenClaim := { program := "ytgfpmjdkjflibaa", sum := "7eda6dd06f107f9a53ec699d239eeebf6fe70bfbc051d0753feb7f8c980e6a4d", func := "cooperage/cooperagelaw01.DigitsBack", spec := "digitsBack", apart := false }
def DigitsBackSaid : Prop := digitsBackRow.holds Try.pinned (OpenSpec.ofChange digitsBackSpec)

/-- ITS FALSE NEIGHBOUR: 'it returns false'. Refute it at one input. -/
def digitsBackWrong : ChangeSpec := { name := "digitsBack", fn := fun _ => fun
  | [d1, d2, d3] => { results := [.lit (.bool false)], args := [d1, d2, d3] }
  | _ => none }
def DigitsBackWrongFalsely : Prop := digitsBackRow.holds Try.pinned (OpenSpec.ofChange digitsBackWrong)

/- THE SECOND FORM. 'bulk': how many values and letters a reading holds, each counted each time it is reached (what is shared counts as often as it is met; a slice's spare places count too). A statement '..UptoSaid' is the law's where the arguments, and the package variables that the reading takes, are together of bulk at most 1048576: NARROWER than '..Said'. Prove '..Said' where nothing that the law and all that it calls make is longer than what came in: it says more and counts as full. Else prove '..UptoSaid'. A law counts once. -/
mutual
def uptoBulk {H : Type} : DataW H → Nat
  | .lit (.string bytes) => bytes.length + 1
  | .lit _ => 1
  | .nil => 1
  | .ptr d => uptoBulk d + 1
  | .slice elems spare => uptoBulkAll elems + uptoBulkAll spare + 1
  | .agg parts => uptoBulkAll parts + 1
  | .iface _ d => uptoBulk d + 1
  | .map entries => uptoBulkEntries entries + 1
  | .held _ => 1
def uptoBulkAll {H : Type} : List (DataW H) → Nat
  | [] => 0
  | d :: r => uptoBulk d + uptoBulkAll r
def uptoBulkEntries {H : Type} : List (Lit × DataW H) → Nat
  | [] => 0
  | x :: r => uptoBulkEntry x + uptoBulkEntries r
def uptoBulkEntry {H : Type} : Lit × DataW H → Nat
  | (.string bytes, d) => bytes.length + uptoBulk d + 1
  | (_, d) => uptoBulk d + 1
 end
def uptoSmall : (H : Type) → List (DataW H) → Bool := fun _ ds => decide (uptoBulkAll ds ≤ 1048576)
def OpenSpec.upto (s : _root_.Go.ChangeSpec) : _root_.Go.OpenSpec := { _root_.Go.OpenSpec.ofChange s with cond := some uptoSmall }

/-- 'cooperagelaw01.DigitsDec', WHERE WHAT IT READS IS OF BULK AT MOST 1048576: true; the input reads as it did. -/
def digitsDecUptoRow : OpenClaim := { program := "ytgfpmjdkjflibaa", sum := "7eda6dd06f107f9a53ec699d239eeebf6fe70bfbc051d0753feb7f8c980e6a4d", func := "cooperage/cooperagelaw01.DigitsDec", spec := "digitsDec", recurses := true, apart := false, narrowed := true }
def DigitsDecUptoSaid : Prop := digitsDecUptoRow.holds Try.pinned (OpenSpec.upto digitsDecSpec)

/-- 'cooperagelaw01.DigitsOctal', WHERE WHAT IT READS IS OF BULK AT MOST 1048576: true; the input reads as it did. -/
def digitsOctalUptoRow : OpenClaim := { program := "ytgfpmjdkjflibaa", sum := "7eda6dd06f107f9a53ec699d239eeebf6fe70bfbc051d0753feb7f8c980e6a4d", func := "cooperage/cooperagelaw01.DigitsOctal", spec := "digitsOctal", apart := false, narrowed := true }
def DigitsOctalUptoSaid : Prop := digitsOctalUptoRow.holds Try.pinned (OpenSpec.upto digitsOctalSpec)

/-- 'cooperagelaw01.DigitsHex', WHERE WHAT IT READS IS OF BULK AT MOST 1048576: true; the input reads as it did. -/
def digitsHexUptoRow : OpenClaim := { program := "ytgfpmjdkjflibaa", sum := "7eda6dd06f107f9a53ec699d239eeebf6fe70bfbc051d0753feb7f8c980e6a4d", func := "cooperage/cooperagelaw01.DigitsHex", spec := "digitsHex", apart := false, narrowed := true }
def DigitsHexUptoSaid : Prop := digitsHexUptoRow.holds Try.pinned (OpenSpec.upto digitsHexSpec)

/-- 'cooperagelaw01.DigitsBack', WHERE WHAT IT READS IS OF BULK AT MOST 1048576: true; the input reads as it did. -/
def digitsBackUptoRow : OpenClaim := { program := "ytgfpmjdkjflibaa", sum := "7eda6dd06f107f9a53ec699d239eeebf6fe70bfbc051d0753feb7f8c980e6a4d", func := "cooperage/cooperagelaw01.DigitsBack", spec := "digitsBack", apart := false, narrowed := true }
def DigitsBackUptoSaid : Prop := digitsBackUptoRow.holds Try.pinned (OpenSpec.upto digitsBackSpec)

end Rows
end Go.Proofs.Ytgfpmjdkjflibaa

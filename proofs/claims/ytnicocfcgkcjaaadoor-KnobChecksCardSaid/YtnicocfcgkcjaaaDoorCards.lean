/-
  DERIVED. GIVEN WITH THE SEED: THE CARDS: each row of YtnicocfcgkcjaaaDoorRows.lean that lists a variable, with what it lists TIED to the program's text (the seventh form; the later family's looks); each row that meets fmt, with fmt's text TOLD by the authors' own Lean function (tested against real Go, not proved from fmt's source: count such statements apart). THE CARD IS WHAT COUNTS. Prove the row's statement (the work); the ties are given (YtnicocfcgkcjaaaDoorTie.lean); close each card by the builder's one call (the guide's Derived/Test/ToyasCard.lean, 'card_holds'). Laid BY PROGRAM, IN A SANDBOX (cutbox-door.mjs). By AI agents, Wed Nov 11 2026. No macro, syntax, notation, axiom, sorry.
-/
import Derived.Test.YtnicocfcgkcjaaaDoorRows
import GoSem.ClaimSeven
namespace Go.Proofs.YtnicocfcgkcjaaaDoor
namespace Rows

/-- THE TIED CARD OF 'lockkeeperlaw18.KnobChecks'. -/
def knobChecksCard : Claim7 := { stood := { row := knobChecksRow, standIns := [], harness := (true, "0fb3849288ed1eb16dc57fd1a917cd3fc7cfee884ec5bb932d0ff8ee846163d7"), looks := true }, kinds := [], alts := [], laidByText := true, laidKinds := [.data, .data, .data, .sentinel, .sentinel, .data], laidTests := true, laidLooks := .later }
def KnobChecksCardSaid : Prop := Claim7.holds Tryd.pinned (.plain (OpenSpec.ofChange knobChecksSpec)) knobChecksCard

/-- THE TIED CARD OF 'lockkeeperlaw18.KnobTexts'. -/
def knobTextsCard : Claim7 := { stood := { row := knobTextsRow, standIns := [], harness := (true, "0fb3849288ed1eb16dc57fd1a917cd3fc7cfee884ec5bb932d0ff8ee846163d7"), looks := true }, kinds := [], alts := [], laidByText := true, laidKinds := [.data, .data, .data, .sentinel, .sentinel, .data], laidTests := true, laidLooks := .later }
def KnobTextsCardSaid : Prop := Claim7.holds Tryd.pinned (.plain (OpenSpec.ofChange knobTextsSpec)) knobTextsCard

/-- THE TIED CARD OF 'lockkeeperlaw18.KnobBack'. -/
def knobBackCard : Claim7 := { stood := { row := knobBackRow, standIns := [], harness := (true, "0fb3849288ed1eb16dc57fd1a917cd3fc7cfee884ec5bb932d0ff8ee846163d7"), looks := true }, kinds := [], alts := [], laidByText := true, laidKinds := [.data, .data, .data, .sentinel, .sentinel, .data], laidTests := true, laidLooks := .later }
def KnobBackCardSaid : Prop := Claim7.holds Tryd.pinned (.plain (OpenSpec.ofChange knobBackSpec)) knobBackCard

/-- THE SECOND FORM's CARD OF 'lockkeeperlaw18.KnobChecks'. -/
def knobChecksUptoCard : Claim7 := { stood := { row := knobChecksUptoRow, standIns := [], harness := (true, "0fb3849288ed1eb16dc57fd1a917cd3fc7cfee884ec5bb932d0ff8ee846163d7"), looks := true }, kinds := [], alts := [], laidByText := true, laidKinds := [.data, .data, .data, .sentinel, .sentinel, .data], laidTests := true, laidLooks := .later }
def KnobChecksUptoCardSaid : Prop := Claim7.holds Tryd.pinned (.plain (OpenSpec.upto knobChecksSpec)) knobChecksUptoCard

/-- THE SECOND FORM's CARD OF 'lockkeeperlaw18.KnobTexts'. -/
def knobTextsUptoCard : Claim7 := { stood := { row := knobTextsUptoRow, standIns := [], harness := (true, "0fb3849288ed1eb16dc57fd1a917cd3fc7cfee884ec5bb932d0ff8ee846163d7"), looks := true }, kinds := [], alts := [], laidByText := true, laidKinds := [.data, .data, .data, .sentinel, .sentinel, .data], laidTests := true, laidLooks := .later }
def KnobTextsUptoCardSaid : Prop := Claim7.holds Tryd.pinned (.plain (OpenSpec.upto knobTextsSpec)) knobTextsUptoCard

/-- THE SECOND FORM's CARD OF 'lockkeeperlaw18.KnobBack'. -/
def knobBackUptoCard : Claim7 := { stood := { row := knobBackUptoRow, standIns := [], harness := (true, "0fb3849288ed1eb16dc57fd1a917cd3fc7cfee884ec5bb932d0ff8ee846163d7"), looks := true }, kinds := [], alts := [], laidByText := true, laidKinds := [.data, .data, .data, .sentinel, .sentinel, .data], laidTests := true, laidLooks := .later }
def KnobBackUptoCardSaid : Prop := Claim7.holds Tryd.pinned (.plain (OpenSpec.upto knobBackSpec)) knobBackUptoCard
end Rows
end Go.Proofs.YtnicocfcgkcjaaaDoor

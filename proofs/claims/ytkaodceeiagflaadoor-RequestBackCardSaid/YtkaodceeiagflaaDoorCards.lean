/-
  DERIVED. GIVEN WITH THE SEED: THE CARDS: each row of YtkaodceeiagflaaDoorRows.lean that lists a variable, with what it lists TIED to the program's text (the seventh form; the later family's looks); each row that meets fmt, with fmt's text TOLD by the authors' own Lean function (tested against real Go, not proved from fmt's source: count such statements apart). THE CARD IS WHAT COUNTS. Prove the row's statement (the work); the ties are given (YtkaodceeiagflaaDoorTie.lean); close each card by the builder's one call (the guide's Derived/Test/ToyasCard.lean, 'card_holds'). Laid BY PROGRAM, IN A SANDBOX (cutbox-door.mjs). By AI agents, Wed Nov 11 2026. No macro, syntax, notation, axiom, sorry.
-/
import Derived.Test.YtkaodceeiagflaaDoorRows
import GoSem.ClaimSeven
namespace Go.Proofs.YtkaodceeiagflaaDoor
namespace Rows

/-- THE TIED CARD OF 'lockkeeperlaw24.RequestPuts'. -/
def requestPutsCard : Claim7 := { stood := { row := requestPutsRow, standIns := [], harness := (true, "01bbeaff3e4d59aeaeca4811772f98d4c80910768dfb000b2210a08aa9834a09"), looks := false }, kinds := [], alts := [], laidByText := true, laidKinds := [.data], laidTests := true, laidLooks := .later }
def RequestPutsCardSaid : Prop := Claim7.holds Tryd.pinned (.plain (OpenSpec.ofChange requestPutsSpec)) requestPutsCard

/-- THE TIED CARD OF 'lockkeeperlaw24.RequestGets'. -/
def requestGetsCard : Claim7 := { stood := { row := requestGetsRow, standIns := [], harness := (true, "01bbeaff3e4d59aeaeca4811772f98d4c80910768dfb000b2210a08aa9834a09"), looks := false }, kinds := [], alts := [], laidByText := true, laidKinds := [.data], laidTests := true, laidLooks := .later }
def RequestGetsCardSaid : Prop := Claim7.holds Tryd.pinned (.plain (OpenSpec.ofChange requestGetsSpec)) requestGetsCard

/-- THE TIED CARD OF 'lockkeeperlaw24.RequestBack'. -/
def requestBackCard : Claim7 := { stood := { row := requestBackRow, standIns := [], harness := (true, "01bbeaff3e4d59aeaeca4811772f98d4c80910768dfb000b2210a08aa9834a09"), looks := false }, kinds := [], alts := [], laidByText := true, laidKinds := [.data], laidTests := true, laidLooks := .later }
def RequestBackCardSaid : Prop := Claim7.holds Tryd.pinned (.plain (OpenSpec.ofChange requestBackSpec)) requestBackCard

/-- THE SECOND FORM's CARD OF 'lockkeeperlaw24.RequestPuts'. -/
def requestPutsUptoCard : Claim7 := { stood := { row := requestPutsUptoRow, standIns := [], harness := (true, "01bbeaff3e4d59aeaeca4811772f98d4c80910768dfb000b2210a08aa9834a09"), looks := false }, kinds := [], alts := [], laidByText := true, laidKinds := [.data], laidTests := true, laidLooks := .later }
def RequestPutsUptoCardSaid : Prop := Claim7.holds Tryd.pinned (.plain (OpenSpec.upto requestPutsSpec)) requestPutsUptoCard

/-- THE SECOND FORM's CARD OF 'lockkeeperlaw24.RequestGets'. -/
def requestGetsUptoCard : Claim7 := { stood := { row := requestGetsUptoRow, standIns := [], harness := (true, "01bbeaff3e4d59aeaeca4811772f98d4c80910768dfb000b2210a08aa9834a09"), looks := false }, kinds := [], alts := [], laidByText := true, laidKinds := [.data], laidTests := true, laidLooks := .later }
def RequestGetsUptoCardSaid : Prop := Claim7.holds Tryd.pinned (.plain (OpenSpec.upto requestGetsSpec)) requestGetsUptoCard

/-- THE SECOND FORM's CARD OF 'lockkeeperlaw24.RequestBack'. -/
def requestBackUptoCard : Claim7 := { stood := { row := requestBackUptoRow, standIns := [], harness := (true, "01bbeaff3e4d59aeaeca4811772f98d4c80910768dfb000b2210a08aa9834a09"), looks := false }, kinds := [], alts := [], laidByText := true, laidKinds := [.data], laidTests := true, laidLooks := .later }
def RequestBackUptoCardSaid : Prop := Claim7.holds Tryd.pinned (.plain (OpenSpec.upto requestBackSpec)) requestBackUptoCard
end Rows
end Go.Proofs.YtkaodceeiagflaaDoor

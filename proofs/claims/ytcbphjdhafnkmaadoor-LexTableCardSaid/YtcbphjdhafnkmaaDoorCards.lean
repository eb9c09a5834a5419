/-
  DERIVED. GIVEN WITH THE SEED: THE CARDS: each row of YtcbphjdhafnkmaaDoorRows.lean that lists a variable, with what it lists TIED to the program's text (the seventh form; the later family's looks); each row that meets fmt, with fmt's text TOLD by the authors' own Lean function (tested against real Go, not proved from fmt's source: count such statements apart). THE CARD IS WHAT COUNTS. Prove the row's statement (the work); the ties are given (YtcbphjdhafnkmaaDoorTie.lean); close each card by the builder's one call (the guide's Derived/Test/ToyasCard.lean, 'card_holds'). Laid BY PROGRAM, IN A SANDBOX (cutbox-door.mjs). By AI agents, Wed Nov 11 2026. No macro, syntax, notation, axiom, sorry.
-/
import Derived.Test.YtcbphjdhafnkmaaDoorRows
import GoSem.ClaimSeven
namespace Go.Proofs.YtcbphjdhafnkmaaDoor
namespace Rows

/-- THE TIED CARD OF 'forepeaklaw16.LexTells'. -/
def lexTellsCard : Claim7 := { stood := { row := lexTellsRow, standIns := [], harness := (true, "f2002859f8f6a5b5e729ddeff845a7ad1754ae0fab09c9637ba1571906b5b569"), looks := true }, kinds := [], alts := [], laidByText := true, laidKinds := [.data, .data, .data, .sentinel, .sentinel], laidTests := true, laidLooks := .later }
def LexTellsCardSaid : Prop := Claim7.holds Tryd.pinned (.plain (OpenSpec.ofChange lexTellsSpec)) lexTellsCard

/-- THE TIED CARD OF 'forepeaklaw16.LexBlanks'. -/
def lexBlanksCard : Claim7 := { stood := { row := lexBlanksRow, standIns := [], harness := (true, "f2002859f8f6a5b5e729ddeff845a7ad1754ae0fab09c9637ba1571906b5b569"), looks := true }, kinds := [], alts := [], laidByText := true, laidKinds := [.data, .data, .data, .sentinel, .sentinel], laidTests := true, laidLooks := .later }
def LexBlanksCardSaid : Prop := Claim7.holds Tryd.pinned (.plain (OpenSpec.ofChange lexBlanksSpec)) lexBlanksCard

/-- THE TIED CARD OF 'forepeaklaw16.LexTable'. -/
def lexTableCard : Claim7 := { stood := { row := lexTableRow, standIns := [], harness := (true, "f2002859f8f6a5b5e729ddeff845a7ad1754ae0fab09c9637ba1571906b5b569"), looks := true }, kinds := [], alts := [], laidByText := true, laidKinds := [.data, .data, .data, .sentinel, .sentinel], laidTests := true, laidLooks := .later }
def LexTableCardSaid : Prop := Claim7.holds Tryd.pinned (.plain (OpenSpec.ofChange lexTableSpec)) lexTableCard

/-- THE SECOND FORM's CARD OF 'forepeaklaw16.LexTells'. -/
def lexTellsUptoCard : Claim7 := { stood := { row := lexTellsUptoRow, standIns := [], harness := (true, "f2002859f8f6a5b5e729ddeff845a7ad1754ae0fab09c9637ba1571906b5b569"), looks := true }, kinds := [], alts := [], laidByText := true, laidKinds := [.data, .data, .data, .sentinel, .sentinel], laidTests := true, laidLooks := .later }
def LexTellsUptoCardSaid : Prop := Claim7.holds Tryd.pinned (.plain (OpenSpec.upto lexTellsSpec)) lexTellsUptoCard

/-- THE SECOND FORM's CARD OF 'forepeaklaw16.LexBlanks'. -/
def lexBlanksUptoCard : Claim7 := { stood := { row := lexBlanksUptoRow, standIns := [], harness := (true, "f2002859f8f6a5b5e729ddeff845a7ad1754ae0fab09c9637ba1571906b5b569"), looks := true }, kinds := [], alts := [], laidByText := true, laidKinds := [.data, .data, .data, .sentinel, .sentinel], laidTests := true, laidLooks := .later }
def LexBlanksUptoCardSaid : Prop := Claim7.holds Tryd.pinned (.plain (OpenSpec.upto lexBlanksSpec)) lexBlanksUptoCard

/-- THE SECOND FORM's CARD OF 'forepeaklaw16.LexTable'. -/
def lexTableUptoCard : Claim7 := { stood := { row := lexTableUptoRow, standIns := [], harness := (true, "f2002859f8f6a5b5e729ddeff845a7ad1754ae0fab09c9637ba1571906b5b569"), looks := true }, kinds := [], alts := [], laidByText := true, laidKinds := [.data, .data, .data, .sentinel, .sentinel], laidTests := true, laidLooks := .later }
def LexTableUptoCardSaid : Prop := Claim7.holds Tryd.pinned (.plain (OpenSpec.upto lexTableSpec)) lexTableUptoCard
end Rows
end Go.Proofs.YtcbphjdhafnkmaaDoor

/-
  DERIVED. GIVEN WITH THE SEED: THE CARDS: each row of YthpangacpihclaaDoorRows.lean that lists a variable, with what it lists TIED to the program's text (the seventh form; the later family's looks); each row that meets fmt, with fmt's text TOLD by the authors' own Lean function (tested against real Go, not proved from fmt's source: count such statements apart). THE CARD IS WHAT COUNTS. Prove the row's statement (the work); the ties are given (YthpangacpihclaaDoorTie.lean); close each card by the builder's one call (the guide's Derived/Test/ToyasCard.lean, 'card_holds'). Laid BY PROGRAM, IN A SANDBOX (cutbox-door.mjs). By AI agents, Wed Nov 11 2026. No macro, syntax, notation, axiom, sorry.
-/
import Derived.Test.YthpangacpihclaaDoorRows
import GoSem.ClaimSeven
namespace Go.Proofs.YthpangacpihclaaDoor
namespace Rows

/-- THE TIED CARD OF 'forepeaklaw13.ChangeOnes'. -/
def changeOnesCard : Claim7 := { stood := { row := changeOnesRow, standIns := [], harness := (true, "4df202d235d646053d62b39a9955137fc16acf95bc38c6c5c92d0d6039f5654f"), looks := false }, kinds := [], alts := [], laidByText := true, laidKinds := [.data], laidTests := true, laidLooks := .later }
def ChangeOnesCardSaid : Prop := Claim7.holds Tryd.pinned (.plain (OpenSpec.ofChange changeOnesSpec)) changeOnesCard

/-- THE TIED CARD OF 'forepeaklaw13.ChangeAll'. -/
def changeAllCard : Claim7 := { stood := { row := changeAllRow, standIns := [], harness := (true, "4df202d235d646053d62b39a9955137fc16acf95bc38c6c5c92d0d6039f5654f"), looks := false }, kinds := [], alts := [], laidByText := true, laidKinds := [.data], laidTests := true, laidLooks := .later }
def ChangeAllCardSaid : Prop := Claim7.holds Tryd.pinned (.plain (OpenSpec.ofChange changeAllSpec)) changeAllCard

/-- THE TIED CARD OF 'forepeaklaw13.ChangeBytes'. -/
def changeBytesCard : Claim7 := { stood := { row := changeBytesRow, standIns := [], harness := (true, "4df202d235d646053d62b39a9955137fc16acf95bc38c6c5c92d0d6039f5654f"), looks := false }, kinds := [], alts := [], laidByText := true, laidKinds := [.data], laidTests := true, laidLooks := .later }
def ChangeBytesCardSaid : Prop := Claim7.holds Tryd.pinned (.plain (OpenSpec.ofChange changeBytesSpec)) changeBytesCard

/-- THE TIED CARD OF 'forepeaklaw13.ChangeBack'. -/
def changeBackCard : Claim7 := { stood := { row := changeBackRow, standIns := [], harness := (true, "4df202d235d646053d62b39a9955137fc16acf95bc38c6c5c92d0d6039f5654f"), looks := false }, kinds := [], alts := [], laidByText := true, laidKinds := [.data], laidTests := true, laidLooks := .later }
def ChangeBackCardSaid : Prop := Claim7.holds Tryd.pinned (.plain (OpenSpec.ofChange changeBackSpec)) changeBackCard

/-- THE TIED CARD OF 'forepeaklaw13.ChangeHides'. -/
def changeHidesCard : Claim7 := { stood := { row := changeHidesRow, standIns := [], harness := (true, "4df202d235d646053d62b39a9955137fc16acf95bc38c6c5c92d0d6039f5654f"), looks := false }, kinds := [], alts := [], laidByText := true, laidKinds := [.data], laidTests := true, laidLooks := .later }
def ChangeHidesCardSaid : Prop := Claim7.holds Tryd.pinned (.plain (OpenSpec.ofChange changeHidesSpec)) changeHidesCard

/-- THE SECOND FORM's CARD OF 'forepeaklaw13.ChangeOnes'. -/
def changeOnesUptoCard : Claim7 := { stood := { row := changeOnesUptoRow, standIns := [], harness := (true, "4df202d235d646053d62b39a9955137fc16acf95bc38c6c5c92d0d6039f5654f"), looks := false }, kinds := [], alts := [], laidByText := true, laidKinds := [.data], laidTests := true, laidLooks := .later }
def ChangeOnesUptoCardSaid : Prop := Claim7.holds Tryd.pinned (.plain (OpenSpec.upto changeOnesSpec)) changeOnesUptoCard

/-- THE SECOND FORM's CARD OF 'forepeaklaw13.ChangeAll'. -/
def changeAllUptoCard : Claim7 := { stood := { row := changeAllUptoRow, standIns := [], harness := (true, "4df202d235d646053d62b39a9955137fc16acf95bc38c6c5c92d0d6039f5654f"), looks := false }, kinds := [], alts := [], laidByText := true, laidKinds := [.data], laidTests := true, laidLooks := .later }
def ChangeAllUptoCardSaid : Prop := Claim7.holds Tryd.pinned (.plain (OpenSpec.upto changeAllSpec)) changeAllUptoCard

/-- THE SECOND FORM's CARD OF 'forepeaklaw13.ChangeBytes'. -/
def changeBytesUptoCard : Claim7 := { stood := { row := changeBytesUptoRow, standIns := [], harness := (true, "4df202d235d646053d62b39a9955137fc16acf95bc38c6c5c92d0d6039f5654f"), looks := false }, kinds := [], alts := [], laidByText := true, laidKinds := [.data], laidTests := true, laidLooks := .later }
def ChangeBytesUptoCardSaid : Prop := Claim7.holds Tryd.pinned (.plain (OpenSpec.upto changeBytesSpec)) changeBytesUptoCard

/-- THE SECOND FORM's CARD OF 'forepeaklaw13.ChangeBack'. -/
def changeBackUptoCard : Claim7 := { stood := { row := changeBackUptoRow, standIns := [], harness := (true, "4df202d235d646053d62b39a9955137fc16acf95bc38c6c5c92d0d6039f5654f"), looks := false }, kinds := [], alts := [], laidByText := true, laidKinds := [.data], laidTests := true, laidLooks := .later }
def ChangeBackUptoCardSaid : Prop := Claim7.holds Tryd.pinned (.plain (OpenSpec.upto changeBackSpec)) changeBackUptoCard

/-- THE SECOND FORM's CARD OF 'forepeaklaw13.ChangeHides'. -/
def changeHidesUptoCard : Claim7 := { stood := { row := changeHidesUptoRow, standIns := [], harness := (true, "4df202d235d646053d62b39a9955137fc16acf95bc38c6c5c92d0d6039f5654f"), looks := false }, kinds := [], alts := [], laidByText := true, laidKinds := [.data], laidTests := true, laidLooks := .later }
def ChangeHidesUptoCardSaid : Prop := Claim7.holds Tryd.pinned (.plain (OpenSpec.upto changeHidesSpec)) changeHidesUptoCard
end Rows
end Go.Proofs.YthpangacpihclaaDoor

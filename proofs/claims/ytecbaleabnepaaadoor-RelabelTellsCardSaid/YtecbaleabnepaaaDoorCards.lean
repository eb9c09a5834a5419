/-
  DERIVED. GIVEN WITH THE SEED: THE CARDS: each row of YtecbaleabnepaaaDoorRows.lean that lists a variable, with what it lists TIED to the program's text (the seventh form; the later family's looks); each row that meets fmt, with fmt's text TOLD by the authors' own Lean function (tested against real Go, not proved from fmt's source: count such statements apart). THE CARD IS WHAT COUNTS. Prove the row's statement (the work); the ties are given (YtecbaleabnepaaaDoorTie.lean); close each card by the builder's one call (the guide's Derived/Test/ToyasCard.lean, 'card_holds'). Laid BY PROGRAM, IN A SANDBOX (cutbox-door.mjs). By AI agents, Wed Nov 11 2026. No macro, syntax, notation, axiom, sorry.
-/
import Derived.Test.YtecbaleabnepaaaDoorRows
import GoSem.ClaimSeven
namespace Go.Proofs.YtecbaleabnepaaaDoor
namespace Rows

/-- THE TIED CARD OF 'forepeaklaw04.RelabelTells'. -/
def relabelTellsCard : Claim7 := { stood := { row := relabelTellsRow, standIns := [], harness := (true, "14a696d96bc8566e77cf13db61a873928e08247af02ba66786c951f63f2f8d7c"), looks := false }, kinds := [], alts := [], laidByText := true, laidKinds := [.data], laidTests := true, laidLooks := .later }
def RelabelTellsCardSaid : Prop := Claim7.holds Tryd.pinned (.plain (OpenSpec.ofChange relabelTellsSpec)) relabelTellsCard

/-- THE TIED CARD OF 'forepeaklaw04.RelabelMoves'. -/
def relabelMovesCard : Claim7 := { stood := { row := relabelMovesRow, standIns := [], harness := (true, "14a696d96bc8566e77cf13db61a873928e08247af02ba66786c951f63f2f8d7c"), looks := false }, kinds := [], alts := [], laidByText := true, laidKinds := [.data], laidTests := true, laidLooks := .later }
def RelabelMovesCardSaid : Prop := Claim7.holds Tryd.pinned (.plain (OpenSpec.ofChange relabelMovesSpec)) relabelMovesCard

/-- THE TIED CARD OF 'forepeaklaw04.RelabelKeeps'. -/
def relabelKeepsCard : Claim7 := { stood := { row := relabelKeepsRow, standIns := [], harness := (true, "14a696d96bc8566e77cf13db61a873928e08247af02ba66786c951f63f2f8d7c"), looks := false }, kinds := [], alts := [], laidByText := true, laidKinds := [.data], laidTests := true, laidLooks := .later }
def RelabelKeepsCardSaid : Prop := Claim7.holds Tryd.pinned (.plain (OpenSpec.ofChange relabelKeepsSpec)) relabelKeepsCard

/-- THE SECOND FORM's CARD OF 'forepeaklaw04.RelabelTells'. -/
def relabelTellsUptoCard : Claim7 := { stood := { row := relabelTellsUptoRow, standIns := [], harness := (true, "14a696d96bc8566e77cf13db61a873928e08247af02ba66786c951f63f2f8d7c"), looks := false }, kinds := [], alts := [], laidByText := true, laidKinds := [.data], laidTests := true, laidLooks := .later }
def RelabelTellsUptoCardSaid : Prop := Claim7.holds Tryd.pinned (.plain (OpenSpec.upto relabelTellsSpec)) relabelTellsUptoCard

/-- THE SECOND FORM's CARD OF 'forepeaklaw04.RelabelMoves'. -/
def relabelMovesUptoCard : Claim7 := { stood := { row := relabelMovesUptoRow, standIns := [], harness := (true, "14a696d96bc8566e77cf13db61a873928e08247af02ba66786c951f63f2f8d7c"), looks := false }, kinds := [], alts := [], laidByText := true, laidKinds := [.data], laidTests := true, laidLooks := .later }
def RelabelMovesUptoCardSaid : Prop := Claim7.holds Tryd.pinned (.plain (OpenSpec.upto relabelMovesSpec)) relabelMovesUptoCard

/-- THE SECOND FORM's CARD OF 'forepeaklaw04.RelabelKeeps'. -/
def relabelKeepsUptoCard : Claim7 := { stood := { row := relabelKeepsUptoRow, standIns := [], harness := (true, "14a696d96bc8566e77cf13db61a873928e08247af02ba66786c951f63f2f8d7c"), looks := false }, kinds := [], alts := [], laidByText := true, laidKinds := [.data], laidTests := true, laidLooks := .later }
def RelabelKeepsUptoCardSaid : Prop := Claim7.holds Tryd.pinned (.plain (OpenSpec.upto relabelKeepsSpec)) relabelKeepsUptoCard
end Rows
end Go.Proofs.YtecbaleabnepaaaDoor

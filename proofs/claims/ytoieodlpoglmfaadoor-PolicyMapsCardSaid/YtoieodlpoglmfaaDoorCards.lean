/-
  DERIVED. GIVEN WITH THE SEED: THE CARDS: each row of YtoieodlpoglmfaaDoorRows.lean that lists a variable, with what it lists TIED to the program's text (the seventh form; the later family's looks); each row that meets fmt, with fmt's text TOLD by the authors' own Lean function (tested against real Go, not proved from fmt's source: count such statements apart). THE CARD IS WHAT COUNTS. Prove the row's statement (the work); the ties are given (YtoieodlpoglmfaaDoorTie.lean); close each card by the builder's one call (the guide's Derived/Test/ToyasCard.lean, 'card_holds'). Laid BY PROGRAM, IN A SANDBOX (cutbox-door.mjs). By AI agents, Wed Nov 11 2026. No macro, syntax, notation, axiom, sorry.
-/
import Derived.Test.YtoieodlpoglmfaaDoorRows
import GoSem.ClaimSeven
namespace Go.Proofs.YtoieodlpoglmfaaDoor
namespace Rows

/-- THE TIED CARD OF 'forepeaklaw12.PolicyTells'. -/
def policyTellsCard : Claim7 := { stood := { row := policyTellsRow, standIns := [], harness := (true, "60dffc05d2e09fa087187d93133c38743d83b88d6cbf5ab8e0471ec5d056a945"), looks := false }, kinds := [], alts := [], laidByText := true, laidKinds := [.data], laidTests := true, laidLooks := .later }
def PolicyTellsCardSaid : Prop := Claim7.holds Tryd.pinned (.plain (OpenSpec.ofChange policyTellsSpec)) policyTellsCard

/-- THE TIED CARD OF 'forepeaklaw12.PolicyMaps'. -/
def policyMapsCard : Claim7 := { stood := { row := policyMapsRow, standIns := [], harness := (true, "60dffc05d2e09fa087187d93133c38743d83b88d6cbf5ab8e0471ec5d056a945"), looks := false }, kinds := [], alts := [], laidByText := true, laidKinds := [.data], laidTests := true, laidLooks := .later }
def PolicyMapsCardSaid : Prop := Claim7.holds Tryd.pinned (.plain (OpenSpec.ofChange policyMapsSpec)) policyMapsCard

/-- THE TIED CARD OF 'forepeaklaw12.PolicyBytes'. -/
def policyBytesCard : Claim7 := { stood := { row := policyBytesRow, standIns := [], harness := (true, "60dffc05d2e09fa087187d93133c38743d83b88d6cbf5ab8e0471ec5d056a945"), looks := false }, kinds := [], alts := [], laidByText := true, laidKinds := [.data], laidTests := true, laidLooks := .later }
def PolicyBytesCardSaid : Prop := Claim7.holds Tryd.pinned (.plain (OpenSpec.ofChange policyBytesSpec)) policyBytesCard

/-- THE TIED CARD OF 'forepeaklaw12.PolicyHides'. -/
def policyHidesCard : Claim7 := { stood := { row := policyHidesRow, standIns := [], harness := (true, "60dffc05d2e09fa087187d93133c38743d83b88d6cbf5ab8e0471ec5d056a945"), looks := false }, kinds := [], alts := [], laidByText := true, laidKinds := [.data], laidTests := true, laidLooks := .later }
def PolicyHidesCardSaid : Prop := Claim7.holds Tryd.pinned (.plain (OpenSpec.ofChange policyHidesSpec)) policyHidesCard

/-- THE TIED CARD OF 'forepeaklaw12.PolicyMore'. -/
def policyMoreCard : Claim7 := { stood := { row := policyMoreRow, standIns := [], harness := (true, "60dffc05d2e09fa087187d93133c38743d83b88d6cbf5ab8e0471ec5d056a945"), looks := false }, kinds := [], alts := [], laidByText := true, laidKinds := [.data], laidTests := true, laidLooks := .later }
def PolicyMoreCardSaid : Prop := Claim7.holds Tryd.pinned (.plain (OpenSpec.ofChange policyMoreSpec)) policyMoreCard

/-- THE SECOND FORM's CARD OF 'forepeaklaw12.PolicyTells'. -/
def policyTellsUptoCard : Claim7 := { stood := { row := policyTellsUptoRow, standIns := [], harness := (true, "60dffc05d2e09fa087187d93133c38743d83b88d6cbf5ab8e0471ec5d056a945"), looks := false }, kinds := [], alts := [], laidByText := true, laidKinds := [.data], laidTests := true, laidLooks := .later }
def PolicyTellsUptoCardSaid : Prop := Claim7.holds Tryd.pinned (.plain (OpenSpec.upto policyTellsSpec)) policyTellsUptoCard

/-- THE SECOND FORM's CARD OF 'forepeaklaw12.PolicyMaps'. -/
def policyMapsUptoCard : Claim7 := { stood := { row := policyMapsUptoRow, standIns := [], harness := (true, "60dffc05d2e09fa087187d93133c38743d83b88d6cbf5ab8e0471ec5d056a945"), looks := false }, kinds := [], alts := [], laidByText := true, laidKinds := [.data], laidTests := true, laidLooks := .later }
def PolicyMapsUptoCardSaid : Prop := Claim7.holds Tryd.pinned (.plain (OpenSpec.upto policyMapsSpec)) policyMapsUptoCard

/-- THE SECOND FORM's CARD OF 'forepeaklaw12.PolicyBytes'. -/
def policyBytesUptoCard : Claim7 := { stood := { row := policyBytesUptoRow, standIns := [], harness := (true, "60dffc05d2e09fa087187d93133c38743d83b88d6cbf5ab8e0471ec5d056a945"), looks := false }, kinds := [], alts := [], laidByText := true, laidKinds := [.data], laidTests := true, laidLooks := .later }
def PolicyBytesUptoCardSaid : Prop := Claim7.holds Tryd.pinned (.plain (OpenSpec.upto policyBytesSpec)) policyBytesUptoCard

/-- THE SECOND FORM's CARD OF 'forepeaklaw12.PolicyHides'. -/
def policyHidesUptoCard : Claim7 := { stood := { row := policyHidesUptoRow, standIns := [], harness := (true, "60dffc05d2e09fa087187d93133c38743d83b88d6cbf5ab8e0471ec5d056a945"), looks := false }, kinds := [], alts := [], laidByText := true, laidKinds := [.data], laidTests := true, laidLooks := .later }
def PolicyHidesUptoCardSaid : Prop := Claim7.holds Tryd.pinned (.plain (OpenSpec.upto policyHidesSpec)) policyHidesUptoCard

/-- THE SECOND FORM's CARD OF 'forepeaklaw12.PolicyMore'. -/
def policyMoreUptoCard : Claim7 := { stood := { row := policyMoreUptoRow, standIns := [], harness := (true, "60dffc05d2e09fa087187d93133c38743d83b88d6cbf5ab8e0471ec5d056a945"), looks := false }, kinds := [], alts := [], laidByText := true, laidKinds := [.data], laidTests := true, laidLooks := .later }
def PolicyMoreUptoCardSaid : Prop := Claim7.holds Tryd.pinned (.plain (OpenSpec.upto policyMoreSpec)) policyMoreUptoCard
end Rows
end Go.Proofs.YtoieodlpoglmfaaDoor

/-
  DERIVED. GIVEN WITH THE SEED: THE CARDS: each row of YtkaoodglnglkdaaDoorRows.lean that lists a variable, with what it lists TIED to the program's text (the seventh form; the later family's looks); each row that meets fmt, with fmt's text TOLD by the authors' own Lean function (tested against real Go, not proved from fmt's source: count such statements apart). THE CARD IS WHAT COUNTS. Prove the row's statement (the work); the ties are given (YtkaoodglnglkdaaDoorTie.lean); close each card by the builder's one call (the guide's Derived/Test/ToyasCard.lean, 'card_holds'). Laid BY PROGRAM, IN A SANDBOX (cutbox-door.mjs). By AI agents, Wed Nov 11 2026. No macro, syntax, notation, axiom, sorry.
-/
import Derived.Test.YtkaoodglnglkdaaDoorRows
import GoSem.ClaimSeven
namespace Go.Proofs.YtkaoodglnglkdaaDoor
namespace Rows

/-- THE TIED CARD OF 'tumbrellaw02.BitsetPlays'. -/
def bitsetPlaysCard : Claim7 := { stood := { row := bitsetPlaysRow, standIns := [], harness := (true, "56fde38da5600bf00a362b06fd8c0cb7c9b22556164722a201ba2bbfefdf2f90"), looks := false }, kinds := [], alts := [], laidByText := true, laidKinds := [.data], laidTests := true, laidLooks := .later }
def BitsetPlaysCardSaid : Prop := Claim7.holds Tryd.pinned (.plain (OpenSpec.ofChange bitsetPlaysSpec)) bitsetPlaysCard

/-- THE TIED CARD OF 'tumbrellaw02.BitsetSame'. -/
def bitsetSameCard : Claim7 := { stood := { row := bitsetSameRow, standIns := [], harness := (true, "56fde38da5600bf00a362b06fd8c0cb7c9b22556164722a201ba2bbfefdf2f90"), looks := false }, kinds := [], alts := [], laidByText := true, laidKinds := [.data], laidTests := true, laidLooks := .later }
def BitsetSameCardSaid : Prop := Claim7.holds Tryd.pinned (.plain (OpenSpec.ofChange bitsetSameSpec)) bitsetSameCard

/-- THE TIED CARD OF 'tumbrellaw02.BitsetEnds'. -/
def bitsetEndsCard : Claim7 := { stood := { row := bitsetEndsRow, standIns := [], harness := (true, "56fde38da5600bf00a362b06fd8c0cb7c9b22556164722a201ba2bbfefdf2f90"), looks := false }, kinds := [], alts := [], laidByText := true, laidKinds := [.data], laidTests := true, laidLooks := .later }
def BitsetEndsCardSaid : Prop := Claim7.holds Tryd.pinned (.plain (OpenSpec.ofChange bitsetEndsSpec)) bitsetEndsCard

/-- THE TIED CARD OF 'tumbrellaw02.BitsetGoes'. -/
def bitsetGoesCard : Claim7 := { stood := { row := bitsetGoesRow, standIns := [], harness := (true, "56fde38da5600bf00a362b06fd8c0cb7c9b22556164722a201ba2bbfefdf2f90"), looks := false }, kinds := [], alts := [], laidByText := true, laidKinds := [.data], laidTests := true, laidLooks := .later }
def BitsetGoesCardSaid : Prop := Claim7.holds Tryd.pinned (.plain (OpenSpec.ofChange bitsetGoesSpec)) bitsetGoesCard

/-- THE SECOND FORM's CARD OF 'tumbrellaw02.BitsetPlays'. -/
def bitsetPlaysUptoCard : Claim7 := { stood := { row := bitsetPlaysUptoRow, standIns := [], harness := (true, "56fde38da5600bf00a362b06fd8c0cb7c9b22556164722a201ba2bbfefdf2f90"), looks := false }, kinds := [], alts := [], laidByText := true, laidKinds := [.data], laidTests := true, laidLooks := .later }
def BitsetPlaysUptoCardSaid : Prop := Claim7.holds Tryd.pinned (.plain (OpenSpec.upto bitsetPlaysSpec)) bitsetPlaysUptoCard

/-- THE SECOND FORM's CARD OF 'tumbrellaw02.BitsetSame'. -/
def bitsetSameUptoCard : Claim7 := { stood := { row := bitsetSameUptoRow, standIns := [], harness := (true, "56fde38da5600bf00a362b06fd8c0cb7c9b22556164722a201ba2bbfefdf2f90"), looks := false }, kinds := [], alts := [], laidByText := true, laidKinds := [.data], laidTests := true, laidLooks := .later }
def BitsetSameUptoCardSaid : Prop := Claim7.holds Tryd.pinned (.plain (OpenSpec.upto bitsetSameSpec)) bitsetSameUptoCard

/-- THE SECOND FORM's CARD OF 'tumbrellaw02.BitsetEnds'. -/
def bitsetEndsUptoCard : Claim7 := { stood := { row := bitsetEndsUptoRow, standIns := [], harness := (true, "56fde38da5600bf00a362b06fd8c0cb7c9b22556164722a201ba2bbfefdf2f90"), looks := false }, kinds := [], alts := [], laidByText := true, laidKinds := [.data], laidTests := true, laidLooks := .later }
def BitsetEndsUptoCardSaid : Prop := Claim7.holds Tryd.pinned (.plain (OpenSpec.upto bitsetEndsSpec)) bitsetEndsUptoCard

/-- THE SECOND FORM's CARD OF 'tumbrellaw02.BitsetGoes'. -/
def bitsetGoesUptoCard : Claim7 := { stood := { row := bitsetGoesUptoRow, standIns := [], harness := (true, "56fde38da5600bf00a362b06fd8c0cb7c9b22556164722a201ba2bbfefdf2f90"), looks := false }, kinds := [], alts := [], laidByText := true, laidKinds := [.data], laidTests := true, laidLooks := .later }
def BitsetGoesUptoCardSaid : Prop := Claim7.holds Tryd.pinned (.plain (OpenSpec.upto bitsetGoesSpec)) bitsetGoesUptoCard
end Rows
end Go.Proofs.YtkaoodglnglkdaaDoor

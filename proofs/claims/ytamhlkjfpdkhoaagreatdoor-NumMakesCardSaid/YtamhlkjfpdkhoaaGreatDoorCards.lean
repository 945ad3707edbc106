/-
  DERIVED. GIVEN WITH THE SEED: THE CARDS: each row of YtamhlkjfpdkhoaaGreatDoorRows.lean that lists a variable, with what it lists TIED to the program's text (the seventh form; the later family's looks); each row that meets fmt, with fmt's text TOLD by the authors' own Lean function (tested against real Go, not proved from fmt's source: count such statements apart). THE CARD IS WHAT COUNTS. Prove the row's statement (the work); the ties are given (YtamhlkjfpdkhoaaGreatDoorTie.lean); close each card by the builder's one call (the guide's Derived/Test/ToyasCard.lean, 'card_holds'). Laid BY PROGRAM, IN A SANDBOX (cutbox-door.mjs). By AI agents, Wed Nov 11 2026. No macro, syntax, notation, axiom, sorry.
-/
import Derived.Test.YtamhlkjfpdkhoaaGreatDoorRows
import GoSem.ClaimSeven
namespace Go.Proofs.YtamhlkjfpdkhoaaGreatDoor
namespace Rows

/-- THE TIED CARD OF 'staddalaw01.NumReads'. -/
def numReadsCard : Claim7 := { stood := { row := numReadsRow, standIns := [], harness := (true, "e7914dc439ea467b340e71c9af4280130097ac5e39a2bd9588f8bf0528894ef1"), looks := false }, kinds := [], alts := [], laidByText := true, laidKinds := [.data, .data, .data], laidTests := true, laidLooks := .later }
def NumReadsCardSaid : Prop := Claim7.holds Tryz.pinned (.plain (OpenSpec.ofChange numReadsSpec)) numReadsCard

/-- THE TIED CARD OF 'staddalaw01.NumMakes'. -/
def numMakesCard : Claim7 := { stood := { row := numMakesRow, standIns := [], harness := (true, "e7914dc439ea467b340e71c9af4280130097ac5e39a2bd9588f8bf0528894ef1"), looks := false }, kinds := [], alts := [], laidByText := true, laidKinds := [.data, .data, .data], laidTests := true, laidLooks := .later }
def NumMakesCardSaid : Prop := Claim7.holds Tryz.pinned (.plain (OpenSpec.ofChange numMakesSpec)) numMakesCard

/-- THE TIED CARD OF 'staddalaw01.NumWholes'. -/
def numWholesCard : Claim7 := { stood := { row := numWholesRow, standIns := [], harness := (true, "e7914dc439ea467b340e71c9af4280130097ac5e39a2bd9588f8bf0528894ef1"), looks := false }, kinds := [], alts := [], laidByText := true, laidKinds := [.data, .data, .data], laidTests := true, laidLooks := .later }
def NumWholesCardSaid : Prop := Claim7.holds Tryz.pinned (.plain (OpenSpec.ofChange numWholesSpec)) numWholesCard

/-- THE TIED CARD OF 'staddalaw01.NumParts'. -/
def numPartsCard : Claim7 := { stood := { row := numPartsRow, standIns := [], harness := (true, "e7914dc439ea467b340e71c9af4280130097ac5e39a2bd9588f8bf0528894ef1"), looks := false }, kinds := [], alts := [], laidByText := true, laidKinds := [.data, .data, .data], laidTests := true, laidLooks := .later }
def NumPartsCardSaid : Prop := Claim7.holds Tryz.pinned (.plain (OpenSpec.ofChange numPartsSpec)) numPartsCard

/-- THE TIED CARD OF 'staddalaw01.NumSizes'. -/
def numSizesCard : Claim7 := { stood := { row := numSizesRow, standIns := [], harness := (true, "e7914dc439ea467b340e71c9af4280130097ac5e39a2bd9588f8bf0528894ef1"), looks := false }, kinds := [], alts := [], laidByText := true, laidKinds := [.data, .data, .data], laidTests := true, laidLooks := .later }
def NumSizesCardSaid : Prop := Claim7.holds Tryz.pinned (.plain (OpenSpec.ofChange numSizesSpec)) numSizesCard

/-- THE TIED CARD OF 'staddalaw01.NumLaws'. -/
def numLawsCard : Claim7 := { stood := { row := numLawsRow, standIns := [], harness := (true, "e7914dc439ea467b340e71c9af4280130097ac5e39a2bd9588f8bf0528894ef1"), looks := false }, kinds := [], alts := [], laidByText := true, laidKinds := [.data, .data, .data], laidTests := true, laidLooks := .later }
def NumLawsCardSaid : Prop := Claim7.holds Tryz.pinned (.plain (OpenSpec.ofChange numLawsSpec)) numLawsCard

/-- THE TIED CARD OF 'staddalaw01.NumRests'. -/
def numRestsCard : Claim7 := { stood := { row := numRestsRow, standIns := [], harness := (true, "e7914dc439ea467b340e71c9af4280130097ac5e39a2bd9588f8bf0528894ef1"), looks := false }, kinds := [], alts := [], laidByText := true, laidKinds := [.data, .data, .data], laidTests := true, laidLooks := .later }
def NumRestsCardSaid : Prop := Claim7.holds Tryz.pinned (.plain (OpenSpec.ofChange numRestsSpec)) numRestsCard

/-- THE TIED CARD OF 'staddalaw01.NumPrimes'. -/
def numPrimesCard : Claim7 := { stood := { row := numPrimesRow, standIns := [], harness := (true, "e7914dc439ea467b340e71c9af4280130097ac5e39a2bd9588f8bf0528894ef1"), looks := false }, kinds := [], alts := [], laidByText := true, laidKinds := [.data, .data, .data], laidTests := true, laidLooks := .later }
def NumPrimesCardSaid : Prop := Claim7.holds Tryz.pinned (.plain (OpenSpec.ofChange numPrimesSpec)) numPrimesCard

/-- THE TIED CARD OF 'staddalaw01.NumGauss'. -/
def numGaussCard : Claim7 := { stood := { row := numGaussRow, standIns := [], harness := (true, "e7914dc439ea467b340e71c9af4280130097ac5e39a2bd9588f8bf0528894ef1"), looks := false }, kinds := [], alts := [], laidByText := true, laidKinds := [.data, .data, .data], laidTests := true, laidLooks := .later }
def NumGaussCardSaid : Prop := Claim7.holds Tryz.pinned (.plain (OpenSpec.ofChange numGaussSpec)) numGaussCard

/-- THE SECOND FORM's CARD OF 'staddalaw01.NumReads'. -/
def numReadsUptoCard : Claim7 := { stood := { row := numReadsUptoRow, standIns := [], harness := (true, "e7914dc439ea467b340e71c9af4280130097ac5e39a2bd9588f8bf0528894ef1"), looks := false }, kinds := [], alts := [], laidByText := true, laidKinds := [.data, .data, .data], laidTests := true, laidLooks := .later }
def NumReadsUptoCardSaid : Prop := Claim7.holds Tryz.pinned (.plain (OpenSpec.upto numReadsSpec)) numReadsUptoCard

/-- THE SECOND FORM's CARD OF 'staddalaw01.NumMakes'. -/
def numMakesUptoCard : Claim7 := { stood := { row := numMakesUptoRow, standIns := [], harness := (true, "e7914dc439ea467b340e71c9af4280130097ac5e39a2bd9588f8bf0528894ef1"), looks := false }, kinds := [], alts := [], laidByText := true, laidKinds := [.data, .data, .data], laidTests := true, laidLooks := .later }
def NumMakesUptoCardSaid : Prop := Claim7.holds Tryz.pinned (.plain (OpenSpec.upto numMakesSpec)) numMakesUptoCard

/-- THE SECOND FORM's CARD OF 'staddalaw01.NumWholes'. -/
def numWholesUptoCard : Claim7 := { stood := { row := numWholesUptoRow, standIns := [], harness := (true, "e7914dc439ea467b340e71c9af4280130097ac5e39a2bd9588f8bf0528894ef1"), looks := false }, kinds := [], alts := [], laidByText := true, laidKinds := [.data, .data, .data], laidTests := true, laidLooks := .later }
def NumWholesUptoCardSaid : Prop := Claim7.holds Tryz.pinned (.plain (OpenSpec.upto numWholesSpec)) numWholesUptoCard

/-- THE SECOND FORM's CARD OF 'staddalaw01.NumParts'. -/
def numPartsUptoCard : Claim7 := { stood := { row := numPartsUptoRow, standIns := [], harness := (true, "e7914dc439ea467b340e71c9af4280130097ac5e39a2bd9588f8bf0528894ef1"), looks := false }, kinds := [], alts := [], laidByText := true, laidKinds := [.data, .data, .data], laidTests := true, laidLooks := .later }
def NumPartsUptoCardSaid : Prop := Claim7.holds Tryz.pinned (.plain (OpenSpec.upto numPartsSpec)) numPartsUptoCard

/-- THE SECOND FORM's CARD OF 'staddalaw01.NumSizes'. -/
def numSizesUptoCard : Claim7 := { stood := { row := numSizesUptoRow, standIns := [], harness := (true, "e7914dc439ea467b340e71c9af4280130097ac5e39a2bd9588f8bf0528894ef1"), looks := false }, kinds := [], alts := [], laidByText := true, laidKinds := [.data, .data, .data], laidTests := true, laidLooks := .later }
def NumSizesUptoCardSaid : Prop := Claim7.holds Tryz.pinned (.plain (OpenSpec.upto numSizesSpec)) numSizesUptoCard

/-- THE SECOND FORM's CARD OF 'staddalaw01.NumLaws'. -/
def numLawsUptoCard : Claim7 := { stood := { row := numLawsUptoRow, standIns := [], harness := (true, "e7914dc439ea467b340e71c9af4280130097ac5e39a2bd9588f8bf0528894ef1"), looks := false }, kinds := [], alts := [], laidByText := true, laidKinds := [.data, .data, .data], laidTests := true, laidLooks := .later }
def NumLawsUptoCardSaid : Prop := Claim7.holds Tryz.pinned (.plain (OpenSpec.upto numLawsSpec)) numLawsUptoCard

/-- THE SECOND FORM's CARD OF 'staddalaw01.NumRests'. -/
def numRestsUptoCard : Claim7 := { stood := { row := numRestsUptoRow, standIns := [], harness := (true, "e7914dc439ea467b340e71c9af4280130097ac5e39a2bd9588f8bf0528894ef1"), looks := false }, kinds := [], alts := [], laidByText := true, laidKinds := [.data, .data, .data], laidTests := true, laidLooks := .later }
def NumRestsUptoCardSaid : Prop := Claim7.holds Tryz.pinned (.plain (OpenSpec.upto numRestsSpec)) numRestsUptoCard

/-- THE SECOND FORM's CARD OF 'staddalaw01.NumPrimes'. -/
def numPrimesUptoCard : Claim7 := { stood := { row := numPrimesUptoRow, standIns := [], harness := (true, "e7914dc439ea467b340e71c9af4280130097ac5e39a2bd9588f8bf0528894ef1"), looks := false }, kinds := [], alts := [], laidByText := true, laidKinds := [.data, .data, .data], laidTests := true, laidLooks := .later }
def NumPrimesUptoCardSaid : Prop := Claim7.holds Tryz.pinned (.plain (OpenSpec.upto numPrimesSpec)) numPrimesUptoCard

/-- THE SECOND FORM's CARD OF 'staddalaw01.NumGauss'. -/
def numGaussUptoCard : Claim7 := { stood := { row := numGaussUptoRow, standIns := [], harness := (true, "e7914dc439ea467b340e71c9af4280130097ac5e39a2bd9588f8bf0528894ef1"), looks := false }, kinds := [], alts := [], laidByText := true, laidKinds := [.data, .data, .data], laidTests := true, laidLooks := .later }
def NumGaussUptoCardSaid : Prop := Claim7.holds Tryz.pinned (.plain (OpenSpec.upto numGaussSpec)) numGaussUptoCard
end Rows
end Go.Proofs.YtamhlkjfpdkhoaaGreatDoor

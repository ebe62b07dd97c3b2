/-
  DERIVED. GIVEN WITH THE SEED: THE CARDS: each row of YtllkcldckehipaaDoorRows.lean that lists a variable, with what it lists TIED to the program's text (the seventh form; the later family's looks); each row that meets fmt, with fmt's text TOLD by the authors' own Lean function (tested against real Go, not proved from fmt's source: count such statements apart). THE CARD IS WHAT COUNTS. Prove the row's statement (the work); the ties are given (YtllkcldckehipaaDoorTie.lean); close each card by the builder's one call (the guide's Derived/Test/ToyasCard.lean, 'card_holds'). Laid BY PROGRAM, IN A SANDBOX (cutbox-door.mjs). By AI agents, Wed Nov 11 2026. No macro, syntax, notation, axiom, sorry.
-/
import Derived.Test.YtllkcldckehipaaDoorRows
import GoSem.ClaimSeven
namespace Go.Proofs.YtllkcldckehipaaDoor
namespace Rows

/-- THE TIED CARD OF 'hoardinglaw05.PrintParts'. -/
def printPartsCard : Claim7 := { stood := { row := printPartsRow, standIns := [], harness := (true, "92354a91a8edd64f0cd26ab48daa91c3101afffcf53b1fdfe47be374ec06ada8"), looks := false }, kinds := [], alts := [], laidByText := true, laidKinds := [.data, .pinned], laidTests := true, laidLooks := .later }
def PrintPartsCardSaid : Prop := Claim7.holds Tryd.pinned (.plain (OpenSpec.ofChange printPartsSpec)) printPartsCard

/-- THE TIED CARD OF 'hoardinglaw05.PrintObject'. -/
def printObjectCard : Claim7 := { stood := { row := printObjectRow, standIns := [], harness := (true, "92354a91a8edd64f0cd26ab48daa91c3101afffcf53b1fdfe47be374ec06ada8"), looks := false }, kinds := [], alts := [], laidByText := true, laidKinds := [.data, .pinned], laidTests := true, laidLooks := .later }
def PrintObjectCardSaid : Prop := Claim7.holds Tryd.pinned (.plain (OpenSpec.ofChange printObjectSpec)) printObjectCard

/-- THE SECOND FORM's CARD OF 'hoardinglaw05.PrintParts'. -/
def printPartsUptoCard : Claim7 := { stood := { row := printPartsUptoRow, standIns := [], harness := (true, "92354a91a8edd64f0cd26ab48daa91c3101afffcf53b1fdfe47be374ec06ada8"), looks := false }, kinds := [], alts := [], laidByText := true, laidKinds := [.data, .pinned], laidTests := true, laidLooks := .later }
def PrintPartsUptoCardSaid : Prop := Claim7.holds Tryd.pinned (.plain (OpenSpec.upto printPartsSpec)) printPartsUptoCard

/-- THE SECOND FORM's CARD OF 'hoardinglaw05.PrintObject'. -/
def printObjectUptoCard : Claim7 := { stood := { row := printObjectUptoRow, standIns := [], harness := (true, "92354a91a8edd64f0cd26ab48daa91c3101afffcf53b1fdfe47be374ec06ada8"), looks := false }, kinds := [], alts := [], laidByText := true, laidKinds := [.data, .pinned], laidTests := true, laidLooks := .later }
def PrintObjectUptoCardSaid : Prop := Claim7.holds Tryd.pinned (.plain (OpenSpec.upto printObjectSpec)) printObjectUptoCard
end Rows
end Go.Proofs.YtllkcldckehipaaDoor

/-
  DERIVED. GIVEN WITH THE SEED: THE CARDS: each row of YtlamkadllbgamaaGreatDoorRows.lean that lists a variable, with what it lists TIED to the program's text (the seventh form; the later family's looks); each row that meets fmt, with fmt's text TOLD by the authors' own Lean function (tested against real Go, not proved from fmt's source: count such statements apart). THE CARD IS WHAT COUNTS. Prove the row's statement (the work); the ties are given (YtlamkadllbgamaaGreatDoorTie.lean); close each card by the builder's one call (the guide's Derived/Test/ToyasCard.lean, 'card_holds'). Laid BY PROGRAM, IN A SANDBOX (cutbox-door.mjs). By AI agents, Wed Nov 11 2026. No macro, syntax, notation, axiom, sorry.
-/
import Derived.Test.YtlamkadllbgamaaGreatDoorRows
import GoSem.ClaimSeven
namespace Go.Proofs.YtlamkadllbgamaaGreatDoor
namespace Rows

/-- THE TIED CARD OF 'hoardinglaw14.ParamsAgain'. -/
def paramsAgainCard : Claim7 := { stood := { row := paramsAgainRow, standIns := [], harness := (true, "ce09044a513bdde1090a3986b11412328b28c12e4acdaa8037f6531b5016663c"), looks := false }, kinds := [], alts := [], laidByText := true, laidKinds := [.data, .pinned], laidTests := true, laidLooks := .later }
def ParamsAgainCardSaid : Prop := Claim7.holds Tryz.pinned (.plain (OpenSpec.ofChange paramsAgainSpec)) paramsAgainCard

/-- THE TIED CARD OF 'hoardinglaw14.ParamsMore'. -/
def paramsMoreCard : Claim7 := { stood := { row := paramsMoreRow, standIns := [], harness := (true, "ce09044a513bdde1090a3986b11412328b28c12e4acdaa8037f6531b5016663c"), looks := false }, kinds := [], alts := [], laidByText := true, laidKinds := [.data, .pinned], laidTests := true, laidLooks := .later }
def ParamsMoreCardSaid : Prop := Claim7.holds Tryz.pinned (.plain (OpenSpec.ofChange paramsMoreSpec)) paramsMoreCard

/-- THE SECOND FORM's CARD OF 'hoardinglaw14.ParamsAgain'. -/
def paramsAgainUptoCard : Claim7 := { stood := { row := paramsAgainUptoRow, standIns := [], harness := (true, "ce09044a513bdde1090a3986b11412328b28c12e4acdaa8037f6531b5016663c"), looks := false }, kinds := [], alts := [], laidByText := true, laidKinds := [.data, .pinned], laidTests := true, laidLooks := .later }
def ParamsAgainUptoCardSaid : Prop := Claim7.holds Tryz.pinned (.plain (OpenSpec.upto paramsAgainSpec)) paramsAgainUptoCard

/-- THE SECOND FORM's CARD OF 'hoardinglaw14.ParamsMore'. -/
def paramsMoreUptoCard : Claim7 := { stood := { row := paramsMoreUptoRow, standIns := [], harness := (true, "ce09044a513bdde1090a3986b11412328b28c12e4acdaa8037f6531b5016663c"), looks := false }, kinds := [], alts := [], laidByText := true, laidKinds := [.data, .pinned], laidTests := true, laidLooks := .later }
def ParamsMoreUptoCardSaid : Prop := Claim7.holds Tryz.pinned (.plain (OpenSpec.upto paramsMoreSpec)) paramsMoreUptoCard
end Rows
end Go.Proofs.YtlamkadllbgamaaGreatDoor

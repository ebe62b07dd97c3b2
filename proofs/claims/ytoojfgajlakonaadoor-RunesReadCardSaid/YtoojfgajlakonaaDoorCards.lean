/-
  DERIVED. GIVEN WITH THE SEED: THE CARDS: each row of YtoojfgajlakonaaDoorRows.lean that lists a variable, with what it lists TIED to the program's text (the seventh form; the later family's looks); each row that meets fmt, with fmt's text TOLD by the authors' own Lean function (tested against real Go, not proved from fmt's source: count such statements apart). THE CARD IS WHAT COUNTS. Prove the row's statement (the work); the ties are given (YtoojfgajlakonaaDoorTie.lean); close each card by the builder's one call (the guide's Derived/Test/ToyasCard.lean, 'card_holds'). Laid BY PROGRAM, IN A SANDBOX (cutbox-door.mjs). By AI agents, Wed Nov 11 2026. No macro, syntax, notation, axiom, sorry.
-/
import Derived.Test.YtoojfgajlakonaaDoorRows
import GoSem.ClaimSeven
namespace Go.Proofs.YtoojfgajlakonaaDoor
namespace Rows

/-- THE TIED CARD OF 'hoardinglaw01.RunesTell'. -/
def runesTellCard : Claim7 := { stood := { row := runesTellRow, standIns := [], harness := (true, "67c23ba246311d78769fb69177ef0fd9d0203a4a332293cdc0cf5b6d1ccc5ba5"), looks := true }, kinds := [], alts := [], laidByText := true, laidKinds := [.data, .data, .data, .data, .sentinel, .sentinel, .pinned], laidTests := true, laidLooks := .later }
def RunesTellCardSaid : Prop := Claim7.holds Tryd.pinned (.plain (OpenSpec.ofChange runesTellSpec)) runesTellCard

/-- THE TIED CARD OF 'hoardinglaw01.RunesRead'. -/
def runesReadCard : Claim7 := { stood := { row := runesReadRow, standIns := [], harness := (true, "67c23ba246311d78769fb69177ef0fd9d0203a4a332293cdc0cf5b6d1ccc5ba5"), looks := true }, kinds := [], alts := [], laidByText := true, laidKinds := [.data, .data, .data, .data, .sentinel, .sentinel, .pinned], laidTests := true, laidLooks := .later }
def RunesReadCardSaid : Prop := Claim7.holds Tryd.pinned (.plain (OpenSpec.ofChange runesReadSpec)) runesReadCard

/-- THE TIED CARD OF 'hoardinglaw01.RunesWalk'. -/
def runesWalkCard : Claim7 := { stood := { row := runesWalkRow, standIns := [], harness := (true, "67c23ba246311d78769fb69177ef0fd9d0203a4a332293cdc0cf5b6d1ccc5ba5"), looks := true }, kinds := [], alts := [], laidByText := true, laidKinds := [.data, .data, .data, .data, .sentinel, .sentinel, .pinned], laidTests := true, laidLooks := .later }
def RunesWalkCardSaid : Prop := Claim7.holds Tryd.pinned (.plain (OpenSpec.ofChange runesWalkSpec)) runesWalkCard

/-- THE TIED CARD OF 'hoardinglaw01.RunesBack'. -/
def runesBackCard : Claim7 := { stood := { row := runesBackRow, standIns := [], harness := (true, "67c23ba246311d78769fb69177ef0fd9d0203a4a332293cdc0cf5b6d1ccc5ba5"), looks := true }, kinds := [], alts := [], laidByText := true, laidKinds := [.data, .data, .data, .data, .sentinel, .sentinel, .pinned], laidTests := true, laidLooks := .later }
def RunesBackCardSaid : Prop := Claim7.holds Tryd.pinned (.plain (OpenSpec.ofChange runesBackSpec)) runesBackCard

/-- THE TIED CARD OF 'hoardinglaw01.RunesApart'. -/
def runesApartCard : Claim7 := { stood := { row := runesApartRow, standIns := [], harness := (true, "67c23ba246311d78769fb69177ef0fd9d0203a4a332293cdc0cf5b6d1ccc5ba5"), looks := true }, kinds := [], alts := [], laidByText := true, laidKinds := [.data, .data, .data, .data, .sentinel, .sentinel, .pinned], laidTests := true, laidLooks := .later }
def RunesApartCardSaid : Prop := Claim7.holds Tryd.pinned (.plain (OpenSpec.ofChange runesApartSpec)) runesApartCard

/-- THE TIED CARD OF 'hoardinglaw01.RunesJoin'. -/
def runesJoinCard : Claim7 := { stood := { row := runesJoinRow, standIns := [], harness := (true, "67c23ba246311d78769fb69177ef0fd9d0203a4a332293cdc0cf5b6d1ccc5ba5"), looks := true }, kinds := [], alts := [], laidByText := true, laidKinds := [.data, .data, .data, .data, .sentinel, .sentinel, .pinned], laidTests := true, laidLooks := .later }
def RunesJoinCardSaid : Prop := Claim7.holds Tryd.pinned (.plain (OpenSpec.ofChange runesJoinSpec)) runesJoinCard

/-- THE SECOND FORM's CARD OF 'hoardinglaw01.RunesTell'. -/
def runesTellUptoCard : Claim7 := { stood := { row := runesTellUptoRow, standIns := [], harness := (true, "67c23ba246311d78769fb69177ef0fd9d0203a4a332293cdc0cf5b6d1ccc5ba5"), looks := true }, kinds := [], alts := [], laidByText := true, laidKinds := [.data, .data, .data, .data, .sentinel, .sentinel, .pinned], laidTests := true, laidLooks := .later }
def RunesTellUptoCardSaid : Prop := Claim7.holds Tryd.pinned (.plain (OpenSpec.upto runesTellSpec)) runesTellUptoCard

/-- THE SECOND FORM's CARD OF 'hoardinglaw01.RunesRead'. -/
def runesReadUptoCard : Claim7 := { stood := { row := runesReadUptoRow, standIns := [], harness := (true, "67c23ba246311d78769fb69177ef0fd9d0203a4a332293cdc0cf5b6d1ccc5ba5"), looks := true }, kinds := [], alts := [], laidByText := true, laidKinds := [.data, .data, .data, .data, .sentinel, .sentinel, .pinned], laidTests := true, laidLooks := .later }
def RunesReadUptoCardSaid : Prop := Claim7.holds Tryd.pinned (.plain (OpenSpec.upto runesReadSpec)) runesReadUptoCard

/-- THE SECOND FORM's CARD OF 'hoardinglaw01.RunesWalk'. -/
def runesWalkUptoCard : Claim7 := { stood := { row := runesWalkUptoRow, standIns := [], harness := (true, "67c23ba246311d78769fb69177ef0fd9d0203a4a332293cdc0cf5b6d1ccc5ba5"), looks := true }, kinds := [], alts := [], laidByText := true, laidKinds := [.data, .data, .data, .data, .sentinel, .sentinel, .pinned], laidTests := true, laidLooks := .later }
def RunesWalkUptoCardSaid : Prop := Claim7.holds Tryd.pinned (.plain (OpenSpec.upto runesWalkSpec)) runesWalkUptoCard

/-- THE SECOND FORM's CARD OF 'hoardinglaw01.RunesBack'. -/
def runesBackUptoCard : Claim7 := { stood := { row := runesBackUptoRow, standIns := [], harness := (true, "67c23ba246311d78769fb69177ef0fd9d0203a4a332293cdc0cf5b6d1ccc5ba5"), looks := true }, kinds := [], alts := [], laidByText := true, laidKinds := [.data, .data, .data, .data, .sentinel, .sentinel, .pinned], laidTests := true, laidLooks := .later }
def RunesBackUptoCardSaid : Prop := Claim7.holds Tryd.pinned (.plain (OpenSpec.upto runesBackSpec)) runesBackUptoCard

/-- THE SECOND FORM's CARD OF 'hoardinglaw01.RunesApart'. -/
def runesApartUptoCard : Claim7 := { stood := { row := runesApartUptoRow, standIns := [], harness := (true, "67c23ba246311d78769fb69177ef0fd9d0203a4a332293cdc0cf5b6d1ccc5ba5"), looks := true }, kinds := [], alts := [], laidByText := true, laidKinds := [.data, .data, .data, .data, .sentinel, .sentinel, .pinned], laidTests := true, laidLooks := .later }
def RunesApartUptoCardSaid : Prop := Claim7.holds Tryd.pinned (.plain (OpenSpec.upto runesApartSpec)) runesApartUptoCard

/-- THE SECOND FORM's CARD OF 'hoardinglaw01.RunesJoin'. -/
def runesJoinUptoCard : Claim7 := { stood := { row := runesJoinUptoRow, standIns := [], harness := (true, "67c23ba246311d78769fb69177ef0fd9d0203a4a332293cdc0cf5b6d1ccc5ba5"), looks := true }, kinds := [], alts := [], laidByText := true, laidKinds := [.data, .data, .data, .data, .sentinel, .sentinel, .pinned], laidTests := true, laidLooks := .later }
def RunesJoinUptoCardSaid : Prop := Claim7.holds Tryd.pinned (.plain (OpenSpec.upto runesJoinSpec)) runesJoinUptoCard
end Rows
end Go.Proofs.YtoojfgajlakonaaDoor
